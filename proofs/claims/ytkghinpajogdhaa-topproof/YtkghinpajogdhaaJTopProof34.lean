/-
  slices.Insert of one item within a row that has no room. Conditions: as it says.
-/
import Derived.Test.YtkghinpajogdhaaJTopProof33
namespace Go.Proofs.Ytkghinpajogdhaa
open Go.RowKit
open Go.Proofs
open WoolBag

/-- an append whose run is known -/
theorem wpList_appendI {P : Program} {w : World} {ops : Array Oper} {rest : List Oper} {o : Oper} {a : Act} {Q : Exit → Act → World → Prop} (hgd : o.guard = none) (s x : Operand) (ts : Array TypeId)
    (ho : o.op = .call { callee := .builtin .append, args := #[s, x], argTypes := ts }) (v1 v2 v' : Value) (w' : World) (hs : a.eval s = v1) (hx : a.eval x = v2)
    (hrun : ∀ ty, (Builtin.append_ ts ty #[v1, v2]).run P w = .ok v' w') (h : wpList P ops Q rest (a.put o.dst v') w') : wpList P ops Q (o :: rest) a w := by
  refine wpList_plain hgd fun K hK => ?_
  unfold Oper.wp execOp
  simp only [ho, resolve, invoke, builtin, Sem.run_bind, Sem.run_pure, Result.andThen_ok, List.map_toArray, List.map_cons, List.map_nil, hs, hx, hrun]
  exact hK _ _ h

theorem zeroI_size (n : Nat) : (Builtin.zeroCells (Value.agg #[.int .i64 0, .int .i64 0, .string ⟨#[]⟩, .int .i64 0]).cells n).toList.length = n * 4 := by
  rw [Array.length_toList]
  unfold Builtin.zeroCells
  rw [Array.size_map, Array.size_range]
  rfl

set_option maxRecDepth 100000 in
set_option maxHeartbeats 4000000 in
theorem insert_grow (l : List Itm) (x : Itm) (k base g cap vb : Nat) (sp : List Value) (w : World) (hk : k < l.length) (hl : l.length ≤ 64) (hrow : RowI w g (itL l ++ sp)) (hroom : cap < l.length + 1) (hcap : l.length ≤ cap)
    (hv : RowI w vb (itC x)) (hbase : base ≤ w.heap.size) :
    Calls Try.prog 90 #[.slice (some ⟨g, 0, none⟩) l.length cap, .int .i64 (k : Int), .slice (some ⟨vb, 0, none⟩) 1 1] w (InsPost w base (some g) (l.take k ++ x :: l.drop k)) := by
  obtain ⟨i0, hi, hz0, hz1, hz2⟩ := itInfo'
  have h4 : (itC x).length = 4 := rfl
  have hvl := hv.lt
  have hgl := hrow.lt
  have hone : ∀ u ∈ itC x, u.oneCell' = true := by have := itL_one [x]; rwa [show itL [x] = itC x from List.append_nil (itC x)] at this
  have hdl : (itL (l.drop k)).length = (l.length - k) * 4 := by rw [itL_length, List.length_drop]
  have htl : (itL (l.take k)).length = k * 4 := by rw [itL_length, List.length_take]; omega
  have hold : (Builtin.firstCells i0.size k (.slice (some ⟨g, 0, none⟩) k cap)).run Try.prog w.drew = .ok (itL (l.take k)).toArray w.drew := by
    rw [hz1]
    exact run_firstCells_some w.drew 4 k ⟨g, 0, none⟩ k cap (itL (l.take k)) htl (fun j u hj => by
      rw [add_lit, Nat.zero_add]
      rw [itL_take, List.getElem?_take] at hj
      split at hj
      · exact hrow.cell (get_app hj)
      · cases hj)
  have hkn : k + (l.length + 1 - k) = l.length + 1 := by omega
  have hrz := fun ty => Lib.run_append_grow_zeros (P := Try.prog) w 24 3 ty 92 i0 _ .i64 .i64 Try.underlying24 Try.underlying3 hi hz0 (some ⟨g, 0, none⟩) k cap (itL (l.take k)) hold (l.length + 1 - k) (by omega) (by rw [hz1]; omega) (by omega) (by omega) (by rw [hz2]; omega) (by rw [hz2]; exact growslice_fits (by omega) (by omega))
  simp only [hkn] at hrz
  have hG1 := grownCap_ge w (l.length + 1) cap 92
  have hG2 := grownCap_le_maxLen w (l.length + 1) cap 92 (by unfold maxLen; omega)
  obtain ⟨G, hG⟩ : ∃ G, grownCap w (l.length + 1) cap 92 = G := ⟨_, rfl⟩
  rw [hG] at hG1 hG2
  simp only [hG] at hrz
  obtain ⟨Z, hZ⟩ : ∃ Z, (Builtin.zeroCells (Value.agg #[.int .i64 0, .int .i64 0, .string ⟨#[]⟩, .int .i64 0]).cells (l.length + 1 - k)).toList ++ (Builtin.zeroCells (Value.agg #[.int .i64 0, .int .i64 0, .string ⟨#[]⟩, .int .i64 0]).cells (G - (l.length + 1))).toList = Z := ⟨_, rfl⟩
  have hZl : Z.length = (l.length + 1 - k) * 4 + (G - (l.length + 1)) * 4 := by rw [← hZ, List.length_append, zeroI_size, zeroI_size]
  have hROW : (itL (l.take k)).toArray ++ Builtin.zeroCells (Value.agg #[.int .i64 0, .int .i64 0, .string ⟨#[]⟩, .int .i64 0]).cells (l.length + 1 - k) ++ Builtin.zeroCells (Value.agg #[.int .i64 0, .int .i64 0, .string ⟨#[]⟩, .int .i64 0]).cells (G - (l.length + 1)) = (itL (l.take k) ++ Z).toArray := by
    rw [← hZ]
    apply Array.toList_inj.1
    simp
  simp only [hROW] at hrz
  obtain ⟨W1, hW1⟩ : ∃ W1, w.drew.alloc (.cells (itL (l.take k) ++ Z).toArray 92) = W1 := ⟨_, rfl⟩
  have hR1 : RowI W1 w.heap.size (itL (l.take k) ++ Z) := by rw [← hW1]; exact heap_alloc_new w.drew _
  have hu1 : Up w W1 := by rw [← hW1]; exact (Up.drew _).trans (Up.alloc _ _)
  simp only [hW1] at hrz
  have hLL : (itL (l.take k) ++ Z).length = G * 4 := by rw [List.length_append, htl, hZl]; omega
  have hv1 := hv.up hu1
  have hg1 := hrow.up hu1
  have hcp1 := fun dc ty => copyI (off := k * 4) (dLen := l.length + 1 - k) (dCap := dc) (a := ⟨vb, 0, none⟩) (sLen := 1) (sCap := 1) (cs := itC x) hR1 (by rw [h4]; simp only [Nat.min_def]; split <;> omega)
    (fun j u hu => by rw [add_lit, Nat.zero_add]; exact hv1.cell hu) (by rw [hLL, h4]; omega) hone ty
  have hR2 := hR1.setRow (splice (itL (l.take k) ++ Z) (k * 4) (itC x))
  have hu2 : Up w (W1.setRow w.heap.size (splice (itL (l.take k) ++ Z) (k * 4) (itC x)).toArray) := below_setRow hu1 (Nat.le_refl _) _
  have hg2 : RowI (W1.setRow w.heap.size (splice (itL (l.take k) ++ Z) (k * 4) (itC x)).toArray) g (itL l ++ sp) := hrow.up hu2
  obtain ⟨W2, hW2⟩ : ∃ W2, W1.setRow w.heap.size (splice (itL (l.take k) ++ Z) (k * 4) (itC x)).toArray = W2 := ⟨_, rfl⟩
  rw [hW2] at hR2 hu2 hg2
  simp only [hW2] at hcp1
  have hR2d : RowI W2.drew w.heap.size (splice (itL (l.take k) ++ Z) (k * 4) (itC x)) := hR2
  have hg2d : RowI W2.drew g (itL l ++ sp) := hg2
  have hcp2 := fun dc sc ty => copyI (off := (k + 1) * 4) (dLen := l.length - k) (dCap := dc) (a := ⟨g, k * 4, none⟩) (sLen := l.length - k) (sCap := sc) (cs := itL (l.drop k)) hR2d (by rw [hdl]; simp only [Nat.min_def]; split <;> omega)
    (fun j u hu => by rw [add_lit]; rw [itL_drop, List.getElem?_drop] at hu; exact hg2d.cell (get_app hu)) (by rw [length_splice _ _ _ (by rw [hLL, h4]; omega), hLL, hdl]; omega) (itL_one _) ty
  have hfin := ins_new (itL (l.take k)) (itL (l.drop k)) Z (itC x) h4
  rw [htl, hdl] at hfin
  rw [show k * 4 + 4 = (k + 1) * 4 by omega] at hfin
  simp only [hfin] at hcp2
  have hR3 := hR2d.setRow (itL (l.take k) ++ (itC x ++ (itL (l.drop k) ++ Z.drop (4 + (l.length - k) * 4))))
  have hu3 : Up w (W2.drew.setRow w.heap.size (itL (l.take k) ++ (itC x ++ (itL (l.drop k) ++ Z.drop (4 + (l.length - k) * 4)))).toArray) := below_setRow (hu2.trans (Up.drew _)) (Nat.le_refl _) _
  obtain ⟨W3, hW3⟩ : ∃ W3, W2.drew.setRow w.heap.size (itL (l.take k) ++ (itC x ++ (itL (l.drop k) ++ Z.drop (4 + (l.length - k) * 4)))).toArray = W3 := ⟨_, rfl⟩
  rw [hW3] at hR3 hu3
  simp only [hW3] at hcp2
  have hfl : (l.take k ++ x :: l.drop k).length = l.length + 1 := by rw [List.length_append, List.length_cons, List.length_take, List.length_drop]; omega
  have HRES : Hid (OItems W3 base (.slice (some ⟨w.heap.size, 0, none⟩) (l.length + 1) G) (l.take k ++ x :: l.drop k)) := by
    show OItems W3 base (.slice (some ⟨w.heap.size, 0, none⟩) (l.length + 1) G) (l.take k ++ x :: l.drop k)
    rw [← hfl]
    refine OItems.mk (sp := Z.drop (4 + (l.length - k) * 4)) hbase ?_ (by omega) hG2 (by rw [hfl, List.length_drop, hZl]; omega)
    rw [itL_append, itL_cons, List.append_assoc, List.append_assoc]
    exact hR3
  have HGR : Hid (w.grownBy W3 (some g)) := ⟨hu3.os, hu3.tape, hu3.output, hu3.size, fun j hj _ => hu3.block j hj⟩
  have HRZ := Lib.hid hrz
  have HC1 := Lib.hid hcp1
  have HC2 := Lib.hid hcp2
  have HM1 : Hid (Nat.min (l.length - k) (l.length - k) = l.length - k) := by show _ = _; simp only [Nat.min_def]; split <;> omega
  unfold maxLen at hG2
  obtain ⟨n, hn⟩ : ∃ n, l.length = n := ⟨_, rfl⟩
  rw [hn] at hk hl hroom hcap HC1 HC2 HRES HM1 HRZ hG1 ⊢
  have hnk : ((k : Int) == (n : Int)) = false := by simp; omega
  have p1 : IntKind.i64.wrap ((n : Int) + 1) = (n : Int) + 1 := IntWalk.i64_in _ (by omega)
  have p2 : IntKind.i64.wrap ((k : Int) + 1) = (k : Int) + 1 := IntWalk.i64_in _ (by omega)
  have p3 : decide ((cap : Int) < (n : Int) + 1) = true := by rw [decide_eq_true_iff]; omega
  have p4 : ¬ cap = k := by omega
  have p5 : ¬ G = k + 1 := by omega
  have p6 : ((k : Int) + 1).toNat = k + 1 := by omega
  have p7 : ¬ G = k := by omega
  have p8 : (0 : Int) ≤ (k : Int) + 1 := by omega
  have p9 : k ≤ n := by omega
  have p10 : (k : Int) ≤ (n : Int) + 1 := by omega
  have p11 : k ≤ cap := by omega
  have HNI : Hid (((n + 1 - k : Nat) : Int) = (n : Int) + 1 - (k : Int)) := by show _ = _; omega
  rw [HNI.out] at HRZ
  obtain ⟨NB, hNB⟩ : ∃ NB, w.heap.size = NB := ⟨_, rfl⟩
  rw [hNB] at HRZ HC1 HC2 HRES
  clear hcp1 hcp2 hR1 hR2 hg1 hg2 hv1 hW1 hW2 hW3 hfl hfin htl hdl hR2d hg2d hLL h4 hrow hv hn hR3 hu1 hu2 hu3 hrz hROW hZl hZ hG hkn hold hone hvl hgl hi hz0 hz1 hz2 hNB HNI
  go_enter Try.func90, Try.ntmps90
  go_wp2_with (first
    | (at_builtin; refine wpList_appendI rfl _ _ #[24, 3] rfl _ _ _ _ rfl rfl HRZ.out ?_)
    | refine wpList_copyI rfl _ _ rfl (.slice (some ⟨NB, k * 4, none⟩) (n + 1 - k) (G - k)) (.slice (some ⟨vb, 0, none⟩) 1 1) rfl rfl (HC1.out _) ?_)
  go_region_law (refine step_copyI rfl (.tmp 50) (.tmp 53) rfl (.slice (some ⟨NB, (k + 1) * 4, none⟩) (n - k) (G - (k + 1))) (.slice (some ⟨g, k * 4, none⟩) (n - k) (cap - k)) (by simp [Act.eval, Act.put]) (by simp [Act.eval, Act.put]) (HC2.out _ _) ?_; rw [HM1.out])
  all_goals
    go_wp2_with fail
    go_ret
    exact ⟨_, rfl, HRES.out, HGR.out⟩

end Go.Proofs.Ytkghinpajogdhaa
