/-
  The texts BagA, BagB, one behind the other; each says below what it holds and on what conditions.
-/
import Derived.Test.YtnmdfdkagkpcaaaJVolOwn24
import Derived.Lib.AppendZerosOnto
import Derived.Lib.Overlaps
import Derived.Laws.Externs

/-
  copy of items into a row that is known whole; slices.Insert of one item. Conditions: as each says.
-/
namespace Go.Proofs.Ytnmdfdkagkpcaaa
open Go.RowKit
open Go.Proofs
open WoolBag

theorem copyI {w : World} {g off dLen dCap : Nat} {a : Addr} {sLen sCap : Nat} {L cs : List Value} (h : RowI w g L) (hn : cs.length = Nat.min sLen dLen * 4) (hsrc : ∀ j v, cs[j]? = some v → w.cell? (a.add j) = some v)
    (hfit : off + cs.length ≤ L.length) (h1 : ∀ v ∈ cs, v.oneCell' = true) (ty : TypeId) :
    (Builtin.copy_ #[28, 28] ty #[.slice (some ⟨g, off, none⟩) dLen dCap, .slice (some a) sLen sCap]).run Try.prog w = .ok (goInt (Nat.min sLen dLen)) (w.setRow g (splice L off cs).toArray) := by
  obtain ⟨i0, hi, _, hz1, _⟩ := itInfo'
  have hl := run_loadCells_list (P := Try.prog) w a cs hsrc
  have hst := run_storeCells_at Try.prog g off 60 cs 0 L.toArray w h (by simpa using hfit) h1
  simp only [Nat.add_zero] at hst
  simp [Builtin.copy_, run_underlying Try.underlying28, Builtin.lenOf, Builtin.firstCells, sizeOf, typeInfo, hi, hz1, ← hn, hl, hst, splice]

theorem wpList_copyI {w : World} {ops : Array Oper} {rest : List Oper} {o : Oper} {a : Act} {Q : Exit → Act → World → Prop} (hgd : o.guard = none) (d s : Operand)
    (ho : o.op = .call { callee := .builtin .copy, args := #[d, s], argTypes := #[28, 28] }) (v u : Value) (hd : a.eval d = v) (hs : a.eval s = u) {v' : Value} {w' : World}
    (hr : ∀ ty, (Builtin.copy_ #[28, 28] ty #[v, u]).run Try.prog w = .ok v' w') (h : wpList Try.prog ops Q rest (a.put o.dst v') w') : wpList Try.prog ops Q (o :: rest) a w := by
  refine wpList_plain hgd fun K hK => ?_
  unfold Oper.wp
  simp [execOp, ho, resolve, invoke, builtin, hd, hs, hr, Result.andThen]
  exact hK _ _ h

theorem step_copyI {w : World} {ops : Array Oper} {o : Oper} {a : Act} {K : Act → World → Prop} {Q : Exit → Act → World → Prop} {E : Prop} (hgd : o.guard = none) (d s : Operand)
    (ho : o.op = .call { callee := .builtin .copy, args := #[d, s], argTypes := #[28, 28] }) (v u : Value) (hd : a.eval d = v) (hs : a.eval s = u) {v' : Value} {w' : World}
    (hr : ∀ ty, (Builtin.copy_ #[28, 28] ty #[v, u]).run Try.prog w = .ok v' w') (h : K (a.put o.dst v') w') : if Region.wanted o (yielded ops a.tmps) = true then Oper.wp Try.prog o a w K Q else E := by
  have hw : Region.wanted o (yielded ops a.tmps) = true := by simp [Region.wanted, hgd]
  rw [if_pos hw]
  unfold Oper.wp
  simp [execOp, ho, resolve, invoke, builtin, hd, hs, hr, Result.andThen]
  exact h

theorem ins_room (A B sp X : List Value) (hX : X.length = 4) (hr : 4 ≤ sp.length) : splice (splice (A ++ B ++ sp) (A.length + 4) B) A.length X = A ++ (X ++ (B ++ sp.drop 4)) := by
  have hT : ((B ++ sp).take 4).length = 4 := by rw [List.length_take, List.length_append]; omega
  have e1 : splice (A ++ B ++ sp) (A.length + 4) B = A ++ ((B ++ sp).take 4 ++ (B ++ sp.drop 4)) := by
    unfold splice
    rw [List.append_assoc A B sp, List.take_append, List.take_of_length_le (by omega), show A.length + 4 - A.length = 4 by omega, List.drop_append, List.drop_of_length_le (by omega), List.nil_append,
      show A.length + 4 + B.length - A.length = B.length + 4 by omega, List.drop_append, List.drop_of_length_le (by omega), List.nil_append, show B.length + 4 - B.length = 4 by omega, List.append_assoc]
  rw [e1]
  generalize (B ++ sp).take 4 = T at hT
  unfold splice
  rw [List.take_left, hX, List.drop_append, List.drop_of_length_le (by omega), List.nil_append, show A.length + 4 - A.length = 4 by omega, List.drop_append, List.drop_of_length_le (by omega), hT, List.nil_append]
  rfl

theorem ins_new (A B Z X : List Value) (hX : X.length = 4) : splice (splice (A ++ Z) A.length X) (A.length + 4) B = A ++ (X ++ (B ++ Z.drop (4 + B.length))) := by
  have e1 : splice (A ++ Z) A.length X = A ++ (X ++ Z.drop 4) := by
    unfold splice
    rw [List.take_left, hX, List.drop_append, List.drop_of_length_le (by omega), List.nil_append, show A.length + 4 - A.length = 4 by omega]
  rw [e1]
  unfold splice
  rw [← List.append_assoc A X, List.take_append, List.take_of_length_le (by rw [List.length_append]; omega), List.length_append, hX, Nat.sub_self, List.take_zero, List.append_nil, List.drop_append, List.drop_of_length_le (by rw [List.length_append]; omega), List.nil_append, List.drop_drop, List.length_append, hX, List.append_assoc,
    show 4 + (A.length + 4 + B.length - (A.length + 4)) = 4 + B.length by omega]

/-- what slices.Insert leaves -/
def InsPost (w : World) (base : Nat) (row : Option Nat) (L : List Itm) (e : Ending) (w' : World) : Prop := ∃ v', e = .returned v' ∧ OItems w' base v' L ∧ w.grownBy w' row

set_option maxRecDepth 100000 in
set_option maxHeartbeats 2000000 in
/-- at the end -/
theorem insert_end (v : Value) (l : List Itm) (x : Itm) (base vb : Nat) (w : World) (h : OItems w base v l) (hl : l.length ≤ 64) (hv : RowI w vb (itC x)) (hbase : base ≤ w.heap.size) :
    Calls Try.prog 87 #[v, .int .i64 (l.length : Int), .slice (some ⟨vb, 0, none⟩) 1 1] w (InsPost w base v.ownBlock (l ++ [x])) := by
  obtain ⟨i0, hi, hz0, hz1, hz2⟩ := itInfo'
  have hsrc : ∀ j u, (itC x)[j]? = some u → w.cell? ((⟨vb, 0, none⟩ : Addr).add j) = some u := fun j u hu => by
    rw [add_lit, Nat.zero_add]; exact hv.cell hu
  have HS := Lib.hid hsrc
  have hO : w.ownsRow base 60 4 v l.length (itL l) := h
  have HO := Lib.hid hO
  have h1 : ∀ u ∈ itC x, u.oneCell' = true := by have := itL_one [x]; rwa [show itL [x] = itC x from List.append_nil (itC x)] at this
  have H1 := Lib.hid h1
  obtain ⟨o, c, hvv, hc, hoc⟩ : ∃ o c, v = .slice o l.length c ∧ c ≤ maxLen ∧ l.length ≤ c := by
    obtain ⟨o, c, h1, h2, h3, _⟩ := h.items
    exact ⟨o, c, h1, h3, h2⟩
  subst hvv
  unfold maxLen at hc
  obtain ⟨n, hn⟩ : ∃ n, l.length = n := ⟨_, rfl⟩
  have hL : itL (l ++ [x]) = itL l ++ itC x := by rw [itL_append]; rfl
  have hLn : (l ++ [x]).length = n + 1 := by rw [List.length_append, hn]; rfl
  have HL := Lib.hid hL
  have HLN := Lib.hid hLn
  rw [hn] at HO hl hoc ⊢
  clear hsrc hO h1 hv h hL hLn hn
  go_enter Try.func87, Try.ntmps87
  go_wp2_with (at_builtin; refine wpList_append_own _ rfl _ _ 28 rfl base 60 i0 _ 4 40 Try.underlying28 hi hz0 hz1 hz2 rfl (by omega) _ _ _ rfl HO.out ⟨vb, 0, none⟩ 1 1 (itC x) rfl rfl HS.out H1.out (by unfold maxLen; omega) (by omega) hbase ?_)
  all_goals
    intro v' w1 hown hgrow hnil
    have HOW : Hid (OItems w1 base v' (l ++ [x])) := by
      show OItems w1 base v' (l ++ [x])
      unfold OItems
      rw [HL.out, HLN.out]
      exact hown
    have HGR := Lib.hid hgrow
    clear hown hgrow hnil
    go_wp2_with fail
    go_ret
    exact ⟨v', rfl, HOW.out, by have hq := HGR.out; cases o <;> exact hq⟩

theorem grown_setRow {w w' : World} {g : Nat} (h : w.grownBy w' (some g)) (L : Array Value) : w.grownBy (w'.setRow g L) (some g) :=
  ⟨h.os, h.tape, h.output, by simpa [World.setRow] using h.size, fun k hk hne => by rw [setRow_other w' g k L (fun e => hne (by rw [e]))]; exact h.block k hk hne⟩
theorem grown_refl (w : World) (row : Option Nat) : w.grownBy w row := ⟨rfl, rfl, rfl, Nat.le_refl _, fun _ _ _ => rfl⟩
theorem grown_drew {w w' : World} {row : Option Nat} (h : w.grownBy w' row) : w.grownBy w'.drew row := ⟨h.os, h.tape, h.output, h.size, h.block⟩

theorem run_extern_overlaps {w : World} {g vb s lb cb : Nat} {L X : List Value} (h : RowI w g L) (hv : RowI w vb X) (hne : vb ≠ g) (hL : L.length ≠ 0) :
    (callFunc 93 #[.slice (some ⟨vb, 0, none⟩) 1 1, .slice (some ⟨g, s, none⟩) lb cb]).run Try.prog w = .ok (.value (.bool false)) w := by
  rw [run_callFunc_extern Try.func93 (by kernel_rfl) (by kernel_rfl) (by kernel_rfl) (e := Extern.SlicesOverlaps.overlaps #[28, 28] #[4]) (by kernel_rfl),
    Lib.run_overlaps_apart w 28 4 60 Try.underlying28 4 Try.sizeOf60 ⟨vb, 0, none⟩ ⟨g, s, none⟩ 1 1 lb cb hne 60 60 X.length L.length (by unfold RowI at hv; simp [World.shape?, hv]) (by unfold RowI at h; simp [World.shape?, h]) hL (hv.frozen 0) (hv.frozen _)]
  rfl

set_option maxRecDepth 100000 in
set_option maxHeartbeats 4000000 in
/-- within, where there is room -/
theorem insert_room (l : List Itm) (x : Itm) (k base g cap vb : Nat) (sp : List Value) (w : World) (hk : k < l.length) (hl : l.length ≤ 64) (hg : base ≤ g) (hrow : RowI w g (itL l ++ sp)) (hroom : l.length + 1 ≤ cap) (hc2 : cap ≤ maxLen) (hc3 : l.length * 4 + sp.length = cap * 4)
    (hv : RowI w vb (itC x)) (hne : vb ≠ g) :
    Calls Try.prog 87 #[.slice (some ⟨g, 0, none⟩) l.length cap, .int .i64 (k : Int), .slice (some ⟨vb, 0, none⟩) 1 1] w (InsPost w base (some g) (l.take k ++ x :: l.drop k)) := by
  have h4 : (itC x).length = 4 := rfl
  have hLL : (itL l ++ sp).length = cap * 4 := by rw [List.length_append, itL_length]; exact hc3
  have hov := fun s lb cb => run_extern_overlaps (s := s) (lb := lb) (cb := cb) hrow hv hne (by omega)
  have hrd : RowI w.drew g (itL l ++ sp) := hrow
  have hdl : (itL (l.drop k)).length = (l.length - k) * 4 := by rw [itL_length, List.length_drop]
  have htl : (itL (l.take k)).length = k * 4 := by rw [itL_length, List.length_take]; omega
  have hlk : l.take k ++ l.drop k = l := List.take_append_drop k l
  have hLs : itL (l.take k) ++ itL (l.drop k) = itL l := by rw [← itL_append, hlk]
  have hfin := ins_room (itL (l.take k)) (itL (l.drop k)) sp (itC x) h4 (by omega)
  rw [hLs, htl] at hfin
  have hcp1 := fun dc sc ty => copyI (off := k * 4 + 4) (dLen := l.length + 1 - (k + 1)) (dCap := dc) (a := ⟨g, k * 4, none⟩) (sLen := l.length + 1 - k) (sCap := sc) (cs := itL (l.drop k)) hrd (by rw [hdl]; simp only [Nat.min_def]; split <;> omega)
    (fun j u hu => by rw [add_lit]; rw [itL_drop, List.getElem?_drop] at hu; exact hrd.cell (get_app hu)) (by rw [hLL, hdl]; omega) (itL_one _) ty
  obtain ⟨W1, hW1⟩ : ∃ W1, w.drew.setRow g (splice (itL l ++ sp) (k * 4 + 4) (itL (l.drop k))).toArray = W1 := ⟨_, rfl⟩
  have hR1 := hrd.setRow (splice (itL l ++ sp) (k * 4 + 4) (itL (l.drop k)))
  have hg1 := grown_setRow (grown_drew (grown_refl w (some g))) (splice (itL l ++ sp) (k * 4 + 4) (itL (l.drop k))).toArray
  have hv1 : RowI (w.drew.setRow g (splice (itL l ++ sp) (k * 4 + 4) (itL (l.drop k))).toArray) vb (itC x) := by
    unfold RowI
    rw [setRow_other _ _ _ _ hne]
    exact hv
  rw [hW1] at hR1 hg1 hv1
  simp only [hW1] at hcp1
  simp only [show k * 4 + 4 = (k + 1) * 4 by omega, show l.length + 1 - (k + 1) = l.length - k by omega] at hcp1
  have hcp2 := fun dc ty => copyI (off := k * 4) (dLen := l.length + 1 - k) (dCap := dc) (a := ⟨vb, 0, none⟩) (sLen := 1) (sCap := 1) (cs := itC x) hR1 (by rw [h4]; simp only [Nat.min_def]; split <;> omega)
    (fun j u hu => by rw [add_lit, Nat.zero_add]; exact hv1.cell hu) (by rw [length_splice _ _ _ (by rw [hLL, hdl]; omega), hLL, h4]; omega) (by have := itL_one [x]; rwa [show itL [x] = itC x from List.append_nil (itC x)] at this) ty
  rw [hfin] at hcp2
  have hR2 := hR1.setRow (itL (l.take k) ++ (itC x ++ (itL (l.drop k) ++ sp.drop 4)))
  have hg2 := grown_setRow hg1 (itL (l.take k) ++ (itC x ++ (itL (l.drop k) ++ sp.drop 4))).toArray
  obtain ⟨W2, hW2⟩ : ∃ W2, W1.setRow g (itL (l.take k) ++ (itC x ++ (itL (l.drop k) ++ sp.drop 4))).toArray = W2 := ⟨_, rfl⟩
  rw [hW2] at hR2 hg2
  simp only [hW2] at hcp2
  have hfl : (l.take k ++ x :: l.drop k).length = l.length + 1 := by rw [List.length_append, List.length_cons, List.length_take, List.length_drop]; omega
  have HRES : Hid (OItems W2 base (.slice (some ⟨g, 0, none⟩) (l.length + 1) cap) (l.take k ++ x :: l.drop k)) := by
    show OItems W2 base (.slice (some ⟨g, 0, none⟩) (l.length + 1) cap) (l.take k ++ x :: l.drop k)
    rw [← hfl]
    refine OItems.mk (sp := sp.drop 4) hg ?_ (by omega) hc2 (by rw [hfl, List.length_drop]; omega)
    rw [itL_append, itL_cons, List.append_assoc, List.append_assoc]
    exact hR2
  have HG2 := Lib.hid hg2
  have HC1 := Lib.hid hcp1
  have HC2 := Lib.hid hcp2
  have HM1 : Hid (Nat.min (l.length + 1 - k) (l.length - k) = l.length - k) := by show _ = _; simp only [Nat.min_def]; split <;> omega
  unfold maxLen at hc2
  obtain ⟨n, hn⟩ : ∃ n, l.length = n := ⟨_, rfl⟩
  rw [hn] at hk hl hroom HC1 HC2 HRES HM1 ⊢
  have hnk : ((k : Int) == (n : Int)) = false := by simp; omega
  have p1 : IntKind.i64.wrap ((n : Int) + 1) = (n : Int) + 1 := IntWalk.i64_in _ (by omega)
  have p2 : IntKind.i64.wrap ((k : Int) + 1) = (k : Int) + 1 := IntWalk.i64_in _ (by omega)
  have p3 : decide ((cap : Int) < (n : Int) + 1) = false := by rw [decide_eq_false_iff_not]; omega
  have p4 : ¬ cap = k := by omega
  have p5 : ¬ cap = k + 1 := by omega
  have p6 : ((k : Int) + 1).toNat = k + 1 := by omega
  have p7 : ((n : Int) + 1).toNat = n + 1 := by omega
  have p8 : (0 : Int) ≤ (k : Int) + 1 := by omega
  have p9 : k ≤ n := by omega
  have p10 : (k : Int) ≤ (n : Int) + 1 := by omega
  clear hcp1 hcp2 hR1 hR2 hg1 hg2 hv1 hW1 hW2 hfl hfin hLs hlk htl hdl hrd hLL h4 hc3 hrow hv hn
  go_enter Try.func87, Try.ntmps87
  go_wp2_with fail
  go_region_law (refine step_copyI rfl (.tmp 73) (.tmp 76) rfl (.slice (some ⟨g, (k + 1) * 4, none⟩) (n - k) (cap - (k + 1))) (.slice (some ⟨g, k * 4, none⟩) (n + 1 - k) (cap - k)) (by simp [Act.eval, Act.put]) (by simp [Act.eval, Act.put]) (HC1.out _ _) ?_; rw [HM1.out])
  all_goals
    go_wp2_with (refine wpList_copyI rfl _ _ rfl (.slice (some ⟨g, k * 4, none⟩) (n + 1 - k) (cap - k)) (.slice (some ⟨vb, 0, none⟩) 1 1) rfl rfl (HC2.out _) ?_)
    go_ret
    exact ⟨_, rfl, HRES.out, HG2.out⟩

end Go.Proofs.Ytnmdfdkagkpcaaa

/-
  slices.Insert of one item within a row that has no room. Conditions: as it says.
-/
namespace Go.Proofs.Ytnmdfdkagkpcaaa
open Go.RowKit
open Go.Proofs
open WoolBag

/-- an append whose run is known -/
theorem wpList_appendI {P : Program} {w : World} {ops : Array Oper} {rest : List Oper} {o : Oper} {a : Act} {Q : Exit → Act → World → Prop} (hgd : o.guard = none) (s x : Operand) (ts : Array TypeId)
    (ho : o.op = .call { callee := .builtin .append, args := #[s, x], argTypes := ts }) (v1 v2 v' : Value) (w' : World) (hs : a.eval s = v1) (hx : a.eval x = v2)
    (hrun : ∀ ty, (Builtin.append_ ts ty #[v1, v2]).run P w = .ok v' w') (h : wpList P ops Q rest (a.put o.dst v') w') : wpList P ops Q (o :: rest) a w := by
  refine wpList_plain hgd fun K hK => ?_
  unfold Oper.wp execOp
  simp only [ho, resolve, invoke, builtin, Sem.run_bind, Sem.run_pure, Result.andThen_ok, List.map_toArray, List.map_cons, List.map_nil, hs, hx, hrun]
  exact hK _ _ h

theorem zeroI_size (n : Nat) : (Builtin.zeroCells (Value.agg #[.int .i64 0, .int .i64 0, .string ⟨#[]⟩, .int .i64 0]).cells n).toList.length = n * 4 := by
  rw [Array.length_toList]
  unfold Builtin.zeroCells
  rw [Array.size_map, Array.size_range]
  rfl

set_option maxRecDepth 100000 in
set_option maxHeartbeats 4000000 in
theorem insert_grow (l : List Itm) (x : Itm) (k base g cap vb : Nat) (sp : List Value) (w : World) (hk : k < l.length) (hl : l.length ≤ 64) (hrow : RowI w g (itL l ++ sp)) (hroom : cap < l.length + 1) (hcap : l.length ≤ cap)
    (hv : RowI w vb (itC x)) (hbase : base ≤ w.heap.size) :
    Calls Try.prog 87 #[.slice (some ⟨g, 0, none⟩) l.length cap, .int .i64 (k : Int), .slice (some ⟨vb, 0, none⟩) 1 1] w (InsPost w base (some g) (l.take k ++ x :: l.drop k)) := by
  obtain ⟨i0, hi, hz0, hz1, hz2⟩ := itInfo'
  have h4 : (itC x).length = 4 := rfl
  have hvl := hv.lt
  have hgl := hrow.lt
  have hone : ∀ u ∈ itC x, u.oneCell' = true := by have := itL_one [x]; rwa [show itL [x] = itC x from List.append_nil (itC x)] at this
  have hdl : (itL (l.drop k)).length = (l.length - k) * 4 := by rw [itL_length, List.length_drop]
  have htl : (itL (l.take k)).length = k * 4 := by rw [itL_length, List.length_take]; omega
  have hold : (Builtin.firstCells i0.size k (.slice (some ⟨g, 0, none⟩) k cap)).run Try.prog w.drew = .ok (itL (l.take k)).toArray w.drew := by
    rw [hz1]
    exact run_firstCells_some w.drew 4 k ⟨g, 0, none⟩ k cap (itL (l.take k)) htl (fun j u hj => by
      rw [add_lit, Nat.zero_add]
      rw [itL_take, List.getElem?_take] at hj
      split at hj
      · exact hrow.cell (get_app hj)
      · cases hj)
  have hkn : k + (l.length + 1 - k) = l.length + 1 := by omega
  have hrz := fun ty => Lib.run_append_grow_zeros (P := Try.prog) w 28 3 ty 60 i0 _ .i64 .i64 Try.underlying28 Try.underlying3 hi hz0 (some ⟨g, 0, none⟩) k cap (itL (l.take k)) hold (l.length + 1 - k) (by omega) (by rw [hz1]; omega) (by omega) (by omega) (by rw [hz2]; omega) (by rw [hz2]; exact growslice_fits (by omega) (by omega))
  simp only [hkn] at hrz
  have hG1 := grownCap_ge w (l.length + 1) cap 60
  have hG2 := grownCap_le_maxLen w (l.length + 1) cap 60 (by unfold maxLen; omega)
  obtain ⟨G, hG⟩ : ∃ G, grownCap w (l.length + 1) cap 60 = G := ⟨_, rfl⟩
  rw [hG] at hG1 hG2
  simp only [hG] at hrz
  obtain ⟨Z, hZ⟩ : ∃ Z, (Builtin.zeroCells (Value.agg #[.int .i64 0, .int .i64 0, .string ⟨#[]⟩, .int .i64 0]).cells (l.length + 1 - k)).toList ++ (Builtin.zeroCells (Value.agg #[.int .i64 0, .int .i64 0, .string ⟨#[]⟩, .int .i64 0]).cells (G - (l.length + 1))).toList = Z := ⟨_, rfl⟩
  have hZl : Z.length = (l.length + 1 - k) * 4 + (G - (l.length + 1)) * 4 := by rw [← hZ, List.length_append, zeroI_size, zeroI_size]
  have hROW : (itL (l.take k)).toArray ++ Builtin.zeroCells (Value.agg #[.int .i64 0, .int .i64 0, .string ⟨#[]⟩, .int .i64 0]).cells (l.length + 1 - k) ++ Builtin.zeroCells (Value.agg #[.int .i64 0, .int .i64 0, .string ⟨#[]⟩, .int .i64 0]).cells (G - (l.length + 1)) = (itL (l.take k) ++ Z).toArray := by
    rw [← hZ]
    apply Array.toList_inj.1
    simp
  simp only [hROW] at hrz
  obtain ⟨W1, hW1⟩ : ∃ W1, w.drew.alloc (.cells (itL (l.take k) ++ Z).toArray 60) = W1 := ⟨_, rfl⟩
  have hR1 : RowI W1 w.heap.size (itL (l.take k) ++ Z) := by rw [← hW1]; exact heap_alloc_new w.drew _
  have hu1 : Up w W1 := by rw [← hW1]; exact (Up.drew _).trans (Up.alloc _ _)
  simp only [hW1] at hrz
  have hLL : (itL (l.take k) ++ Z).length = G * 4 := by rw [List.length_append, htl, hZl]; omega
  have hv1 := hv.up hu1
  have hg1 := hrow.up hu1
  have hcp1 := fun dc ty => copyI (off := k * 4) (dLen := l.length + 1 - k) (dCap := dc) (a := ⟨vb, 0, none⟩) (sLen := 1) (sCap := 1) (cs := itC x) hR1 (by rw [h4]; simp only [Nat.min_def]; split <;> omega)
    (fun j u hu => by rw [add_lit, Nat.zero_add]; exact hv1.cell hu) (by rw [hLL, h4]; omega) hone ty
  have hR2 := hR1.setRow (splice (itL (l.take k) ++ Z) (k * 4) (itC x))
  have hu2 : Up w (W1.setRow w.heap.size (splice (itL (l.take k) ++ Z) (k * 4) (itC x)).toArray) := below_setRow hu1 (Nat.le_refl _) _
  have hg2 : RowI (W1.setRow w.heap.size (splice (itL (l.take k) ++ Z) (k * 4) (itC x)).toArray) g (itL l ++ sp) := hrow.up hu2
  obtain ⟨W2, hW2⟩ : ∃ W2, W1.setRow w.heap.size (splice (itL (l.take k) ++ Z) (k * 4) (itC x)).toArray = W2 := ⟨_, rfl⟩
  rw [hW2] at hR2 hu2 hg2
  simp only [hW2] at hcp1
  have hR2d : RowI W2.drew w.heap.size (splice (itL (l.take k) ++ Z) (k * 4) (itC x)) := hR2
  have hg2d : RowI W2.drew g (itL l ++ sp) := hg2
  have hcp2 := fun dc sc ty => copyI (off := (k + 1) * 4) (dLen := l.length - k) (dCap := dc) (a := ⟨g, k * 4, none⟩) (sLen := l.length - k) (sCap := sc) (cs := itL (l.drop k)) hR2d (by rw [hdl]; simp only [Nat.min_def]; split <;> omega)
    (fun j u hu => by rw [add_lit]; rw [itL_drop, List.getElem?_drop] at hu; exact hg2d.cell (get_app hu)) (by rw [length_splice _ _ _ (by rw [hLL, h4]; omega), hLL, hdl]; omega) (itL_one _) ty
  have hfin := ins_new (itL (l.take k)) (itL (l.drop k)) Z (itC x) h4
  rw [htl, hdl] at hfin
  rw [show k * 4 + 4 = (k + 1) * 4 by omega] at hfin
  simp only [hfin] at hcp2
  have hR3 := hR2d.setRow (itL (l.take k) ++ (itC x ++ (itL (l.drop k) ++ Z.drop (4 + (l.length - k) * 4))))
  have hu3 : Up w (W2.drew.setRow w.heap.size (itL (l.take k) ++ (itC x ++ (itL (l.drop k) ++ Z.drop (4 + (l.length - k) * 4)))).toArray) := below_setRow (hu2.trans (Up.drew _)) (Nat.le_refl _) _
  obtain ⟨W3, hW3⟩ : ∃ W3, W2.drew.setRow w.heap.size (itL (l.take k) ++ (itC x ++ (itL (l.drop k) ++ Z.drop (4 + (l.length - k) * 4)))).toArray = W3 := ⟨_, rfl⟩
  rw [hW3] at hR3 hu3
  simp only [hW3] at hcp2
  have hfl : (l.take k ++ x :: l.drop k).length = l.length + 1 := by rw [List.length_append, List.length_cons, List.length_take, List.length_drop]; omega
  have HRES : Hid (OItems W3 base (.slice (some ⟨w.heap.size, 0, none⟩) (l.length + 1) G) (l.take k ++ x :: l.drop k)) := by
    show OItems W3 base (.slice (some ⟨w.heap.size, 0, none⟩) (l.length + 1) G) (l.take k ++ x :: l.drop k)
    rw [← hfl]
    refine OItems.mk (sp := Z.drop (4 + (l.length - k) * 4)) hbase ?_ (by omega) hG2 (by rw [hfl, List.length_drop, hZl]; omega)
    rw [itL_append, itL_cons, List.append_assoc, List.append_assoc]
    exact hR3
  have HGR : Hid (w.grownBy W3 (some g)) := ⟨hu3.os, hu3.tape, hu3.output, hu3.size, fun j hj _ => hu3.block j hj⟩
  have HRZ := Lib.hid hrz
  have HC1 := Lib.hid hcp1
  have HC2 := Lib.hid hcp2
  have HM1 : Hid (Nat.min (l.length - k) (l.length - k) = l.length - k) := by show _ = _; simp only [Nat.min_def]; split <;> omega
  unfold maxLen at hG2
  obtain ⟨n, hn⟩ : ∃ n, l.length = n := ⟨_, rfl⟩
  rw [hn] at hk hl hroom hcap HC1 HC2 HRES HM1 HRZ hG1 ⊢
  have hnk : ((k : Int) == (n : Int)) = false := by simp; omega
  have p1 : IntKind.i64.wrap ((n : Int) + 1) = (n : Int) + 1 := IntWalk.i64_in _ (by omega)
  have p2 : IntKind.i64.wrap ((k : Int) + 1) = (k : Int) + 1 := IntWalk.i64_in _ (by omega)
  have p3 : decide ((cap : Int) < (n : Int) + 1) = true := by rw [decide_eq_true_iff]; omega
  have p4 : ¬ cap = k := by omega
  have p5 : ¬ G = k + 1 := by omega
  have p6 : ((k : Int) + 1).toNat = k + 1 := by omega
  have p7 : ¬ G = k := by omega
  have p8 : (0 : Int) ≤ (k : Int) + 1 := by omega
  have p9 : k ≤ n := by omega
  have p10 : (k : Int) ≤ (n : Int) + 1 := by omega
  have p11 : k ≤ cap := by omega
  have HNI : Hid (((n + 1 - k : Nat) : Int) = (n : Int) + 1 - (k : Int)) := by show _ = _; omega
  rw [HNI.out] at HRZ
  obtain ⟨NB, hNB⟩ : ∃ NB, w.heap.size = NB := ⟨_, rfl⟩
  rw [hNB] at HRZ HC1 HC2 HRES
  clear hcp1 hcp2 hR1 hR2 hg1 hg2 hv1 hW1 hW2 hW3 hfl hfin htl hdl hR2d hg2d hLL h4 hrow hv hn hR3 hu1 hu2 hu3 hrz hROW hZl hZ hG hkn hold hone hvl hgl hi hz0 hz1 hz2 hNB HNI
  go_enter Try.func87, Try.ntmps87
  go_wp2_with (first
    | (at_builtin; refine wpList_appendI rfl _ _ #[28, 3] rfl _ _ _ _ rfl rfl HRZ.out ?_)
    | refine wpList_copyI rfl _ _ rfl (.slice (some ⟨NB, k * 4, none⟩) (n + 1 - k) (G - k)) (.slice (some ⟨vb, 0, none⟩) 1 1) rfl rfl (HC1.out _) ?_)
  go_region_law (refine step_copyI rfl (.tmp 50) (.tmp 53) rfl (.slice (some ⟨NB, (k + 1) * 4, none⟩) (n - k) (G - (k + 1))) (.slice (some ⟨g, k * 4, none⟩) (n - k) (cap - k)) (by simp [Act.eval, Act.put]) (by simp [Act.eval, Act.put]) (HC2.out _ _) ?_; rw [HM1.out])
  all_goals
    go_wp2_with fail
    go_ret
    exact ⟨_, rfl, HRES.out, HGR.out⟩

end Go.Proofs.Ytnmdfdkagkpcaaa
