/-
  copy of volumes, as they lie in memory, into a row that is known whole; slices.Insert of one volume. Conditions: as each says.
-/
import Derived.Test.YtnmdfdkagkpcaaaJVolOwn23
import Derived.Test.YtnmdfdkagkpcaaaJVolOwn27
namespace Go.Proofs.Ytnmdfdkagkpcaaa
open Go.RowKit
open Go.Proofs
open WoolBag
open WoolVol

abbrev RowV (w : World) (g : Nat) (L : List Value) : Prop := RowC w g 62 L

theorem RowV.setRow {w : World} {g : Nat} {L : List Value} (h : RowV w g L) (L' : List Value) : RowV (w.setRow g L'.toArray) g L' := setRow_heap w g _ _ _ _ h

theorem vL_length (C : List VC) : (fl vcC C).length = C.length * 2 := fl_length vcC_len C
theorem vL_append (a b : List VC) : fl vcC (a ++ b) = fl vcC a ++ fl vcC b := fl_append a b
theorem vL_cons (x : VC) (r : List VC) : fl vcC (x :: r) = vcC x ++ fl vcC r := rfl
theorem vL_take (C : List VC) (k : Nat) : fl vcC (C.take k) = (fl vcC C).take (k * 2) := fl_take vcC_len C k
theorem vL_drop (C : List VC) (k : Nat) : fl vcC (C.drop k) = (fl vcC C).drop (k * 2) := fl_drop vcC_len C k
theorem vL_one {C : List VC} (h : ∀ u ∈ fl vcC C, u.oneCell' = true) (k : Nat) : ∀ u ∈ fl vcC (C.drop k), u.oneCell' = true := by
  intro u hu; rw [vL_drop] at hu; exact h u (List.mem_of_mem_drop hu)
theorem get_appV {A sp : List Value} {j : Nat} {v : Value} (h : A[j]? = some v) : (A ++ sp)[j]? = some v := by
  rw [List.getElem?_append_left ((List.getElem?_eq_some_iff.1 h).1)]; exact h

theorem OVC.mk {w : World} {base g cap : Nat} {l : List VC} {sp : List Value} (hb : base ≤ g) (h : RowV w g (fl vcC l ++ sp)) (h1 : l.length ≤ cap) (h2 : cap ≤ maxLen) (h3 : l.length * 2 + sp.length = cap * 2) :
    OVC w base (.slice (some ⟨g, 0, none⟩) l.length cap) l := own_mk hb h (vL_length l) h1 h2 h3

theorem copyV {w : World} {g off dLen dCap : Nat} {a : Addr} {sLen sCap : Nat} {L cs : List Value} (h : RowV w g L) (hn : cs.length = Nat.min sLen dLen * 2) (hsrc : ∀ j v, cs[j]? = some v → w.cell? (a.add j) = some v)
    (hfit : off + cs.length ≤ L.length) (h1 : ∀ v ∈ cs, v.oneCell' = true) (ty : TypeId) :
    (Builtin.copy_ #[29, 29] ty #[.slice (some ⟨g, off, none⟩) dLen dCap, .slice (some a) sLen sCap]).run Try.prog w = .ok (goInt (Nat.min sLen dLen)) (w.setRow g (splice L off cs).toArray) := by
  obtain ⟨i0, hi, _, hz1, _⟩ := volInfo'
  have hl := run_loadCells_list (P := Try.prog) w a cs hsrc
  have hst := run_storeCells_at Try.prog g off 62 cs 0 L.toArray w h (by simpa using hfit) h1
  simp only [Nat.add_zero] at hst
  simp [Builtin.copy_, run_underlying Try.underlying29, Builtin.lenOf, Builtin.firstCells, sizeOf, typeInfo, hi, hz1, ← hn, hl, hst, splice]

theorem wpList_copyV {w : World} {ops : Array Oper} {rest : List Oper} {o : Oper} {a : Act} {Q : Exit → Act → World → Prop} (hgd : o.guard = none) (d s : Operand)
    (ho : o.op = .call { callee := .builtin .copy, args := #[d, s], argTypes := #[29, 29] }) (v u : Value) (hd : a.eval d = v) (hs : a.eval s = u) {v' : Value} {w' : World}
    (hr : ∀ ty, (Builtin.copy_ #[29, 29] ty #[v, u]).run Try.prog w = .ok v' w') (h : wpList Try.prog ops Q rest (a.put o.dst v') w') : wpList Try.prog ops Q (o :: rest) a w := by
  refine wpList_plain hgd fun K hK => ?_
  unfold Oper.wp
  simp [execOp, ho, resolve, invoke, builtin, hd, hs, hr, Result.andThen]
  exact hK _ _ h

theorem step_copyV {w : World} {ops : Array Oper} {o : Oper} {a : Act} {K : Act → World → Prop} {Q : Exit → Act → World → Prop} {E : Prop} (hgd : o.guard = none) (d s : Operand)
    (ho : o.op = .call { callee := .builtin .copy, args := #[d, s], argTypes := #[29, 29] }) (v u : Value) (hd : a.eval d = v) (hs : a.eval s = u) {v' : Value} {w' : World}
    (hr : ∀ ty, (Builtin.copy_ #[29, 29] ty #[v, u]).run Try.prog w = .ok v' w') (h : K (a.put o.dst v') w') : if Region.wanted o (yielded ops a.tmps) = true then Oper.wp Try.prog o a w K Q else E := by
  have hw : Region.wanted o (yielded ops a.tmps) = true := by simp [Region.wanted, hgd]
  rw [if_pos hw]
  unfold Oper.wp
  simp [execOp, ho, resolve, invoke, builtin, hd, hs, hr, Result.andThen]
  exact h

theorem ins_roomV (A B sp X : List Value) (hX : X.length = 2) (hr : 2 ≤ sp.length) : splice (splice (A ++ B ++ sp) (A.length + 2) B) A.length X = A ++ (X ++ (B ++ sp.drop 2)) := by
  have hT : ((B ++ sp).take 2).length = 2 := by rw [List.length_take, List.length_append]; omega
  have e1 : splice (A ++ B ++ sp) (A.length + 2) B = A ++ ((B ++ sp).take 2 ++ (B ++ sp.drop 2)) := by
    unfold splice
    rw [List.append_assoc A B sp, List.take_append, List.take_of_length_le (by omega), show A.length + 2 - A.length = 2 by omega, List.drop_append, List.drop_of_length_le (by omega), List.nil_append,
      show A.length + 2 + B.length - A.length = B.length + 2 by omega, List.drop_append, List.drop_of_length_le (by omega), List.nil_append, show B.length + 2 - B.length = 2 by omega, List.append_assoc]
  rw [e1]
  generalize (B ++ sp).take 2 = T at hT
  unfold splice
  rw [List.take_left, hX, List.drop_append, List.drop_of_length_le (by omega), List.nil_append, show A.length + 2 - A.length = 2 by omega, List.drop_append, List.drop_of_length_le (by omega), hT, List.nil_append]
  rfl

theorem ins_newV (A B Z X : List Value) (hX : X.length = 2) : splice (splice (A ++ Z) A.length X) (A.length + 2) B = A ++ (X ++ (B ++ Z.drop (2 + B.length))) := by
  have e1 : splice (A ++ Z) A.length X = A ++ (X ++ Z.drop 2) := by
    unfold splice
    rw [List.take_left, hX, List.drop_append, List.drop_of_length_le (by omega), List.nil_append, show A.length + 2 - A.length = 2 by omega]
  rw [e1]
  unfold splice
  rw [← List.append_assoc A X, List.take_append, List.take_of_length_le (by rw [List.length_append]; omega), List.length_append, hX, Nat.sub_self, List.take_zero, List.append_nil, List.drop_append, List.drop_of_length_le (by rw [List.length_append]; omega), List.nil_append, List.drop_drop, List.length_append, hX, List.append_assoc,
    show 2 + (A.length + 2 + B.length - (A.length + 2)) = 2 + B.length by omega]

/-- what slices.Insert leaves -/
def InsVPost (w : World) (base : Nat) (row : Option Nat) (L : List VC) (e : Ending) (w' : World) : Prop := ∃ v', e = .returned v' ∧ OVC w' base v' L ∧ w.grownBy w' row

set_option maxRecDepth 100000 in
set_option maxHeartbeats 2000000 in
/-- at the end -/
theorem insertV_end (v : Value) (l : List VC) (x : VC) (base vb : Nat) (w : World) (hx1 : ∀ u ∈ vcC x, u.oneCell' = true) (h : OVC w base v l) (hl : l.length ≤ 6) (hv : RowV w vb (vcC x)) (hbase : base ≤ w.heap.size) :
    Calls Try.prog 68 #[v, .int .i64 (l.length : Int), .slice (some ⟨vb, 0, none⟩) 1 1] w (InsVPost w base v.ownBlock (l ++ [x])) := by
  obtain ⟨i0, hi, hz0, hz1, hz2⟩ := volInfo'
  have hsrc : ∀ j u, (vcC x)[j]? = some u → w.cell? ((⟨vb, 0, none⟩ : Addr).add j) = some u := fun j u hu => by
    rw [add_lit, Nat.zero_add]; exact hv.cell hu
  have HS := Lib.hid hsrc
  have hO : w.ownsRow base 62 2 v l.length (fl vcC l) := h
  have HO := Lib.hid hO
  have h1 : ∀ u ∈ vcC x, u.oneCell' = true := hx1
  have H1 := Lib.hid h1
  obtain ⟨o, c, hvv, hc, hoc⟩ : ∃ o c, v = .slice o l.length c ∧ c ≤ maxLen ∧ l.length ≤ c := by
    obtain ⟨o, c, h1, h2, h3⟩ := Sl.slice h.vcs
    exact ⟨o, c, h1, h3, h2⟩
  subst hvv
  unfold maxLen at hc
  obtain ⟨n, hn⟩ : ∃ n, l.length = n := ⟨_, rfl⟩
  have hL : fl vcC (l ++ [x]) = fl vcC l ++ vcC x := by rw [vL_append]; rfl
  have hLn : (l ++ [x]).length = n + 1 := by rw [List.length_append, hn]; rfl
  have HL := Lib.hid hL
  have HLN := Lib.hid hLn
  rw [hn] at HO hl hoc ⊢
  clear hsrc hO h1 hx1 hv h hL hLn hn
  go_enter Try.func68, Try.ntmps68
  go_wp2_with (at_builtin; refine wpList_append_own _ rfl _ _ 29 rfl base 62 i0 _ 2 40 Try.underlying29 hi hz0 hz1 hz2 rfl (by omega) _ _ _ rfl HO.out ⟨vb, 0, none⟩ 1 1 (vcC x) rfl rfl HS.out H1.out (by unfold maxLen; omega) (by omega) hbase ?_)
  all_goals
    intro v' w1 hown hgrow hnil
    have HOW : Hid (OVC w1 base v' (l ++ [x])) := by
      show OVC w1 base v' (l ++ [x])
      unfold OVC
      rw [HL.out, HLN.out]
      exact hown
    have HGR := Lib.hid hgrow
    clear hown hgrow hnil
    go_wp2_with fail
    go_ret
    exact ⟨v', rfl, HOW.out, by have hq := HGR.out; cases o <;> exact hq⟩

theorem run_overlapsV {w : World} {g vb s lb cb : Nat} {L X : List Value} (h : RowV w g L) (hv : RowV w vb X) (hne : vb ≠ g) (hL : L.length ≠ 0) :
    (callFunc 83 #[.slice (some ⟨vb, 0, none⟩) 1 1, .slice (some ⟨g, s, none⟩) lb cb]).run Try.prog w = .ok (.value (.bool false)) w := by
  rw [run_callFunc_extern Try.func83 (by kernel_rfl) (by kernel_rfl) (by kernel_rfl) (e := Extern.SlicesOverlaps.overlaps #[29, 29] #[4]) (by kernel_rfl),
    Lib.run_overlaps_apart w 29 4 62 Try.underlying29 2 Try.sizeOf62 ⟨vb, 0, none⟩ ⟨g, s, none⟩ 1 1 lb cb hne 62 62 X.length L.length (by unfold RowV RowC at hv; simp [World.shape?, hv]) (by unfold RowV RowC at h; simp [World.shape?, h]) hL (hv.frozen 0) (hv.frozen _)]
  rfl

set_option maxRecDepth 100000 in
set_option maxHeartbeats 4000000 in
/-- within, where there is room -/
theorem insertV_room (l : List VC) (x : VC) (k base g cap vb : Nat) (sp : List Value) (w : World) (hx1 : ∀ u ∈ vcC x, u.oneCell' = true) (h1l : ∀ u ∈ fl vcC l, u.oneCell' = true) (hk : k < l.length) (hl : l.length ≤ 6) (hg : base ≤ g) (hrow : RowV w g (fl vcC l ++ sp)) (hroom : l.length + 1 ≤ cap) (hc2 : cap ≤ maxLen) (hc3 : l.length * 2 + sp.length = cap * 2)
    (hv : RowV w vb (vcC x)) (hne : vb ≠ g) :
    Calls Try.prog 68 #[.slice (some ⟨g, 0, none⟩) l.length cap, .int .i64 (k : Int), .slice (some ⟨vb, 0, none⟩) 1 1] w (InsVPost w base (some g) (l.take k ++ x :: l.drop k)) := by
  have h4 : (vcC x).length = 2 := rfl
  have hLL : (fl vcC l ++ sp).length = cap * 2 := by rw [List.length_append, vL_length]; exact hc3
  have hov := fun s lb cb => run_overlapsV (s := s) (lb := lb) (cb := cb) hrow hv hne (by omega)
  have hrd : RowV w.drew g (fl vcC l ++ sp) := hrow
  have hdl : (fl vcC (l.drop k)).length = (l.length - k) * 2 := by rw [vL_length, List.length_drop]
  have htl : (fl vcC (l.take k)).length = k * 2 := by rw [vL_length, List.length_take]; omega
  have hlk : l.take k ++ l.drop k = l := List.take_append_drop k l
  have hLs : fl vcC (l.take k) ++ fl vcC (l.drop k) = fl vcC l := by rw [← vL_append, hlk]
  have hfin := ins_roomV (fl vcC (l.take k)) (fl vcC (l.drop k)) sp (vcC x) h4 (by omega)
  rw [hLs, htl] at hfin
  have hcp1 := fun dc sc ty => copyV (off := k * 2 + 2) (dLen := l.length + 1 - (k + 1)) (dCap := dc) (a := ⟨g, k * 2, none⟩) (sLen := l.length + 1 - k) (sCap := sc) (cs := fl vcC (l.drop k)) hrd (by rw [hdl]; simp only [Nat.min_def]; split <;> omega)
    (fun j u hu => by rw [add_lit]; rw [vL_drop, List.getElem?_drop] at hu; exact hrd.cell (get_appV hu)) (by rw [hLL, hdl]; omega) (vL_one h1l k) ty
  obtain ⟨W1, hW1⟩ : ∃ W1, w.drew.setRow g (splice (fl vcC l ++ sp) (k * 2 + 2) (fl vcC (l.drop k))).toArray = W1 := ⟨_, rfl⟩
  have hR1 := hrd.setRow (splice (fl vcC l ++ sp) (k * 2 + 2) (fl vcC (l.drop k)))
  have hg1 := grown_setRow (grown_drew (grown_refl w (some g))) (splice (fl vcC l ++ sp) (k * 2 + 2) (fl vcC (l.drop k))).toArray
  have hv1 : RowV (w.drew.setRow g (splice (fl vcC l ++ sp) (k * 2 + 2) (fl vcC (l.drop k))).toArray) vb (vcC x) := by
    unfold RowV RowC
    rw [setRow_other _ _ _ _ hne]
    exact hv
  rw [hW1] at hR1 hg1 hv1
  simp only [hW1] at hcp1
  simp only [show k * 2 + 2 = (k + 1) * 2 by omega, show l.length + 1 - (k + 1) = l.length - k by omega] at hcp1
  have hcp2 := fun dc ty => copyV (off := k * 2) (dLen := l.length + 1 - k) (dCap := dc) (a := ⟨vb, 0, none⟩) (sLen := 1) (sCap := 1) (cs := vcC x) hR1 (by rw [h4]; simp only [Nat.min_def]; split <;> omega)
    (fun j u hu => by rw [add_lit, Nat.zero_add]; exact hv1.cell hu) (by rw [length_splice _ _ _ (by rw [hLL, hdl]; omega), hLL, h4]; omega) hx1 ty
  rw [hfin] at hcp2
  have hR2 := hR1.setRow (fl vcC (l.take k) ++ (vcC x ++ (fl vcC (l.drop k) ++ sp.drop 2)))
  have hg2 := grown_setRow hg1 (fl vcC (l.take k) ++ (vcC x ++ (fl vcC (l.drop k) ++ sp.drop 2))).toArray
  obtain ⟨W2, hW2⟩ : ∃ W2, W1.setRow g (fl vcC (l.take k) ++ (vcC x ++ (fl vcC (l.drop k) ++ sp.drop 2))).toArray = W2 := ⟨_, rfl⟩
  rw [hW2] at hR2 hg2
  simp only [hW2] at hcp2
  have hfl : (l.take k ++ x :: l.drop k).length = l.length + 1 := by rw [List.length_append, List.length_cons, List.length_take, List.length_drop]; omega
  have HRES : Hid (OVC W2 base (.slice (some ⟨g, 0, none⟩) (l.length + 1) cap) (l.take k ++ x :: l.drop k)) := by
    show OVC W2 base (.slice (some ⟨g, 0, none⟩) (l.length + 1) cap) (l.take k ++ x :: l.drop k)
    rw [← hfl]
    refine OVC.mk (sp := sp.drop 2) hg ?_ (by omega) hc2 (by rw [hfl, List.length_drop]; omega)
    rw [vL_append, vL_cons, List.append_assoc, List.append_assoc]
    exact hR2
  have HG2 := Lib.hid hg2
  have HC1 := Lib.hid hcp1
  have HC2 := Lib.hid hcp2
  have HM1 : Hid (Nat.min (l.length + 1 - k) (l.length - k) = l.length - k) := by show _ = _; simp only [Nat.min_def]; split <;> omega
  unfold maxLen at hc2
  obtain ⟨n, hn⟩ : ∃ n, l.length = n := ⟨_, rfl⟩
  rw [hn] at hk hl hroom HC1 HC2 HRES HM1 ⊢
  have hnk : ((k : Int) == (n : Int)) = false := by simp; omega
  have p1 : IntKind.i64.wrap ((n : Int) + 1) = (n : Int) + 1 := IntWalk.i64_in _ (by omega)
  have p2 : IntKind.i64.wrap ((k : Int) + 1) = (k : Int) + 1 := IntWalk.i64_in _ (by omega)
  have p3 : decide ((cap : Int) < (n : Int) + 1) = false := by rw [decide_eq_false_iff_not]; omega
  have p4 : ¬ cap = k := by omega
  have p5 : ¬ cap = k + 1 := by omega
  have p6 : ((k : Int) + 1).toNat = k + 1 := by omega
  have p7 : ((n : Int) + 1).toNat = n + 1 := by omega
  have p8 : (0 : Int) ≤ (k : Int) + 1 := by omega
  have p9 : k ≤ n := by omega
  have p10 : (k : Int) ≤ (n : Int) + 1 := by omega
  clear hcp1 hcp2 hR1 hR2 hg1 hg2 hv1 hW1 hW2 hfl hfin hLs hlk htl hdl hrd hLL h4 hc3 hrow hv hn hx1 h1l
  go_enter Try.func68, Try.ntmps68
  go_wp2_with fail
  go_region_law (refine step_copyV rfl (.tmp 73) (.tmp 76) rfl (.slice (some ⟨g, (k + 1) * 2, none⟩) (n - k) (cap - (k + 1))) (.slice (some ⟨g, k * 2, none⟩) (n + 1 - k) (cap - k)) (by simp [Act.eval, Act.put]) (by simp [Act.eval, Act.put]) (HC1.out _ _) ?_; rw [HM1.out])
  all_goals
    go_wp2_with (refine wpList_copyV rfl _ _ rfl (.slice (some ⟨g, k * 2, none⟩) (n + 1 - k) (cap - k)) (.slice (some ⟨vb, 0, none⟩) 1 1) rfl rfl (HC2.out _) ?_)
    go_ret
    exact ⟨_, rfl, HRES.out, HG2.out⟩


theorem zeroV_size (n : Nat) : (Builtin.zeroCells (Value.agg #[.string ⟨#[]⟩, .slice none 0 0]).cells n).toList.length = n * 2 := by
  rw [Array.length_toList]
  unfold Builtin.zeroCells
  rw [Array.size_map, Array.size_range]
  rfl

set_option maxRecDepth 100000 in
set_option maxHeartbeats 4000000 in
theorem insertV_grow (l : List VC) (x : VC) (k base g cap vb : Nat) (sp : List Value) (w : World) (hx1 : ∀ u ∈ vcC x, u.oneCell' = true) (h1l : ∀ u ∈ fl vcC l, u.oneCell' = true) (hk : k < l.length) (hl : l.length ≤ 6) (hrow : RowV w g (fl vcC l ++ sp)) (hroom : cap < l.length + 1) (hcap : l.length ≤ cap)
    (hv : RowV w vb (vcC x)) (hbase : base ≤ w.heap.size) :
    Calls Try.prog 68 #[.slice (some ⟨g, 0, none⟩) l.length cap, .int .i64 (k : Int), .slice (some ⟨vb, 0, none⟩) 1 1] w (InsVPost w base (some g) (l.take k ++ x :: l.drop k)) := by
  obtain ⟨i0, hi, hz0, hz1, hz2⟩ := volInfo'
  have h4 : (vcC x).length = 2 := rfl
  have hvl := hv.lt
  have hgl := hrow.lt
  have hone : ∀ u ∈ vcC x, u.oneCell' = true := hx1
  have hdl : (fl vcC (l.drop k)).length = (l.length - k) * 2 := by rw [vL_length, List.length_drop]
  have htl : (fl vcC (l.take k)).length = k * 2 := by rw [vL_length, List.length_take]; omega
  have hold : (Builtin.firstCells i0.size k (.slice (some ⟨g, 0, none⟩) k cap)).run Try.prog w.drew = .ok (fl vcC (l.take k)).toArray w.drew := by
    rw [hz1]
    exact run_firstCells_some w.drew 2 k ⟨g, 0, none⟩ k cap (fl vcC (l.take k)) htl (fun j u hj => by
      rw [add_lit, Nat.zero_add]
      rw [vL_take, List.getElem?_take] at hj
      split at hj
      · exact hrow.cell (get_appV hj)
      · cases hj)
  have hkn : k + (l.length + 1 - k) = l.length + 1 := by omega
  have hrz := fun ty => Lib.run_append_grow_zeros (P := Try.prog) w 29 3 ty 62 i0 _ .i64 .i64 Try.underlying29 Try.underlying3 hi hz0 (some ⟨g, 0, none⟩) k cap (fl vcC (l.take k)) hold (l.length + 1 - k) (by omega) (by rw [hz1]; omega) (by omega) (by omega) (by rw [hz2]; omega) (by rw [hz2]; exact growslice_fits (by omega) (by omega))
  simp only [hkn] at hrz
  have hG1 := grownCap_ge w (l.length + 1) cap 62
  have hG2 := grownCap_le_maxLen w (l.length + 1) cap 62 (by unfold maxLen; omega)
  obtain ⟨G, hG⟩ : ∃ G, grownCap w (l.length + 1) cap 62 = G := ⟨_, rfl⟩
  rw [hG] at hG1 hG2
  simp only [hG] at hrz
  obtain ⟨Z, hZ⟩ : ∃ Z, (Builtin.zeroCells (Value.agg #[.string ⟨#[]⟩, .slice none 0 0]).cells (l.length + 1 - k)).toList ++ (Builtin.zeroCells (Value.agg #[.string ⟨#[]⟩, .slice none 0 0]).cells (G - (l.length + 1))).toList = Z := ⟨_, rfl⟩
  have hZl : Z.length = (l.length + 1 - k) * 2 + (G - (l.length + 1)) * 2 := by rw [← hZ, List.length_append, zeroV_size, zeroV_size]
  have hROW : (fl vcC (l.take k)).toArray ++ Builtin.zeroCells (Value.agg #[.string ⟨#[]⟩, .slice none 0 0]).cells (l.length + 1 - k) ++ Builtin.zeroCells (Value.agg #[.string ⟨#[]⟩, .slice none 0 0]).cells (G - (l.length + 1)) = (fl vcC (l.take k) ++ Z).toArray := by
    rw [← hZ]
    apply Array.toList_inj.1
    simp
  simp only [hROW] at hrz
  obtain ⟨W1, hW1⟩ : ∃ W1, w.drew.alloc (.cells (fl vcC (l.take k) ++ Z).toArray 62) = W1 := ⟨_, rfl⟩
  have hR1 : RowV W1 w.heap.size (fl vcC (l.take k) ++ Z) := by rw [← hW1]; exact heap_alloc_new w.drew _
  have hu1 : Up w W1 := by rw [← hW1]; exact (Up.drew _).trans (Up.alloc _ _)
  simp only [hW1] at hrz
  have hLL : (fl vcC (l.take k) ++ Z).length = G * 2 := by rw [List.length_append, htl, hZl]; omega
  have hv1 := hv.up hu1
  have hg1 := hrow.up hu1
  have hcp1 := fun dc ty => copyV (off := k * 2) (dLen := l.length + 1 - k) (dCap := dc) (a := ⟨vb, 0, none⟩) (sLen := 1) (sCap := 1) (cs := vcC x) hR1 (by rw [h4]; simp only [Nat.min_def]; split <;> omega)
    (fun j u hu => by rw [add_lit, Nat.zero_add]; exact hv1.cell hu) (by rw [hLL, h4]; omega) hone ty
  have hR2 := hR1.setRow (splice (fl vcC (l.take k) ++ Z) (k * 2) (vcC x))
  have hu2 : Up w (W1.setRow w.heap.size (splice (fl vcC (l.take k) ++ Z) (k * 2) (vcC x)).toArray) := below_setRow hu1 (Nat.le_refl _) _
  have hg2 : RowV (W1.setRow w.heap.size (splice (fl vcC (l.take k) ++ Z) (k * 2) (vcC x)).toArray) g (fl vcC l ++ sp) := hrow.up hu2
  obtain ⟨W2, hW2⟩ : ∃ W2, W1.setRow w.heap.size (splice (fl vcC (l.take k) ++ Z) (k * 2) (vcC x)).toArray = W2 := ⟨_, rfl⟩
  rw [hW2] at hR2 hu2 hg2
  simp only [hW2] at hcp1
  have hR2d : RowV W2.drew w.heap.size (splice (fl vcC (l.take k) ++ Z) (k * 2) (vcC x)) := hR2
  have hg2d : RowV W2.drew g (fl vcC l ++ sp) := hg2
  have hcp2 := fun dc sc ty => copyV (off := (k + 1) * 2) (dLen := l.length - k) (dCap := dc) (a := ⟨g, k * 2, none⟩) (sLen := l.length - k) (sCap := sc) (cs := fl vcC (l.drop k)) hR2d (by rw [hdl]; simp only [Nat.min_def]; split <;> omega)
    (fun j u hu => by rw [add_lit]; rw [vL_drop, List.getElem?_drop] at hu; exact hg2d.cell (get_appV hu)) (by rw [length_splice _ _ _ (by rw [hLL, h4]; omega), hLL, hdl]; omega) (vL_one h1l k) ty
  have hfin := ins_newV (fl vcC (l.take k)) (fl vcC (l.drop k)) Z (vcC x) h4
  rw [htl, hdl] at hfin
  rw [show k * 2 + 2 = (k + 1) * 2 by omega] at hfin
  simp only [hfin] at hcp2
  have hR3 := hR2d.setRow (fl vcC (l.take k) ++ (vcC x ++ (fl vcC (l.drop k) ++ Z.drop (2 + (l.length - k) * 2))))
  have hu3 : Up w (W2.drew.setRow w.heap.size (fl vcC (l.take k) ++ (vcC x ++ (fl vcC (l.drop k) ++ Z.drop (2 + (l.length - k) * 2)))).toArray) := below_setRow (hu2.trans (Up.drew _)) (Nat.le_refl _) _
  obtain ⟨W3, hW3⟩ : ∃ W3, W2.drew.setRow w.heap.size (fl vcC (l.take k) ++ (vcC x ++ (fl vcC (l.drop k) ++ Z.drop (2 + (l.length - k) * 2)))).toArray = W3 := ⟨_, rfl⟩
  rw [hW3] at hR3 hu3
  simp only [hW3] at hcp2
  have hfl : (l.take k ++ x :: l.drop k).length = l.length + 1 := by rw [List.length_append, List.length_cons, List.length_take, List.length_drop]; omega
  have HRES : Hid (OVC W3 base (.slice (some ⟨w.heap.size, 0, none⟩) (l.length + 1) G) (l.take k ++ x :: l.drop k)) := by
    show OVC W3 base (.slice (some ⟨w.heap.size, 0, none⟩) (l.length + 1) G) (l.take k ++ x :: l.drop k)
    rw [← hfl]
    refine OVC.mk (sp := Z.drop (2 + (l.length - k) * 2)) hbase ?_ (by omega) hG2 (by rw [hfl, List.length_drop, hZl]; omega)
    rw [vL_append, vL_cons, List.append_assoc, List.append_assoc]
    exact hR3
  have HGR : Hid (w.grownBy W3 (some g)) := ⟨hu3.os, hu3.tape, hu3.output, hu3.size, fun j hj _ => hu3.block j hj⟩
  have HRZ := Lib.hid hrz
  have HC1 := Lib.hid hcp1
  have HC2 := Lib.hid hcp2
  have HM1 : Hid (Nat.min (l.length - k) (l.length - k) = l.length - k) := by show _ = _; simp only [Nat.min_def]; split <;> omega
  unfold maxLen at hG2
  obtain ⟨n, hn⟩ : ∃ n, l.length = n := ⟨_, rfl⟩
  rw [hn] at hk hl hroom hcap HC1 HC2 HRES HM1 HRZ hG1 ⊢
  have hnk : ((k : Int) == (n : Int)) = false := by simp; omega
  have p1 : IntKind.i64.wrap ((n : Int) + 1) = (n : Int) + 1 := IntWalk.i64_in _ (by omega)
  have p2 : IntKind.i64.wrap ((k : Int) + 1) = (k : Int) + 1 := IntWalk.i64_in _ (by omega)
  have p3 : decide ((cap : Int) < (n : Int) + 1) = true := by rw [decide_eq_true_iff]; omega
  have p4 : ¬ cap = k := by omega
  have p5 : ¬ G = k + 1 := by omega
  have p6 : ((k : Int) + 1).toNat = k + 1 := by omega
  have p7 : ¬ G = k := by omega
  have p8 : (0 : Int) ≤ (k : Int) + 1 := by omega
  have p9 : k ≤ n := by omega
  have p10 : (k : Int) ≤ (n : Int) + 1 := by omega
  have p11 : k ≤ cap := by omega
  have HNI : Hid (((n + 1 - k : Nat) : Int) = (n : Int) + 1 - (k : Int)) := by show _ = _; omega
  rw [HNI.out] at HRZ
  obtain ⟨NB, hNB⟩ : ∃ NB, w.heap.size = NB := ⟨_, rfl⟩
  rw [hNB] at HRZ HC1 HC2 HRES
  clear hx1 h1l hcp1 hcp2 hR1 hR2 hg1 hg2 hv1 hW1 hW2 hW3 hfl hfin htl hdl hR2d hg2d hLL h4 hrow hv hn hR3 hu1 hu2 hu3 hrz hROW hZl hZ hG hkn hold hone hvl hgl hi hz0 hz1 hz2 hNB HNI
  go_enter Try.func68, Try.ntmps68
  go_wp2_with (first
    | (at_builtin; refine wpList_appendI rfl _ _ #[29, 3] rfl _ _ _ _ rfl rfl HRZ.out ?_)
    | refine wpList_copyV rfl _ _ rfl (.slice (some ⟨NB, k * 2, none⟩) (n + 1 - k) (G - k)) (.slice (some ⟨vb, 0, none⟩) 1 1) rfl rfl (HC1.out _) ?_)
  go_region_law (refine step_copyV rfl (.tmp 50) (.tmp 53) rfl (.slice (some ⟨NB, (k + 1) * 2, none⟩) (n - k) (G - (k + 1))) (.slice (some ⟨g, k * 2, none⟩) (n - k) (cap - k)) (by simp [Act.eval, Act.put]) (by simp [Act.eval, Act.put]) (HC2.out _ _) ?_; rw [HM1.out])
  all_goals
    go_wp2_with fail
    go_ret
    exact ⟨_, rfl, HRES.out, HGR.out⟩

theorem insertV_any (v : Value) (l : List VC) (x : VC) (k base vb : Nat) (w : World) (hx1 : ∀ u ∈ vcC x, u.oneCell' = true) (h1l : ∀ u ∈ fl vcC l, u.oneCell' = true) (h : OVC w base v l) (hk : k ≤ l.length) (hl : l.length ≤ 6) (hv : RowV w vb (vcC x)) (hne : v.ownBlock ≠ some vb) (hbase : base ≤ w.heap.size) :
    Calls Try.prog 68 #[v, .int .i64 (k : Int), .slice (some ⟨vb, 0, none⟩) 1 1] w (InsVPost w base v.ownBlock (l.take k ++ x :: l.drop k)) := by
  by_cases hkl : k = l.length
  · subst hkl
    rw [List.take_length, List.drop_length]
    exact insertV_end v l x base vb w hx1 h hl hv hbase
  · rcases own_row h with ⟨_, _, hn⟩ | ⟨g, cap, sp, rfl, hg, hrow, hc1, hc2, hc3⟩
    · have : (fl vcC l).length = 0 := by rw [hn]; rfl
      rw [vL_length] at this; omega
    · by_cases hroom : l.length + 1 ≤ cap
      · exact insertV_room l x k base g cap vb sp w hx1 h1l (by omega) hl hg hrow hroom hc2 hc3 hv (fun e => hne (by rw [e]; rfl))
      · exact insertV_grow l x k base g cap vb sp w hx1 h1l (by omega) hl hrow (by omega) hc1 hv hbase

end Go.Proofs.Ytnmdfdkagkpcaaa
