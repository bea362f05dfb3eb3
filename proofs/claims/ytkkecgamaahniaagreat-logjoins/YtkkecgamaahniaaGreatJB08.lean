/-
  The numbers of uses, by identifier: a map that reads so (MapF, Uses), its look-ups and its stores. Conditions: as each says.
-/
import Derived.Test.YtkkecgamaahniaaGreatJB07
import Derived.Test.YtkkecgamaahniaaGreatJB03
import Derived.Maps.OwnSet
import Derived.Maps.OwnOps
import Derived.DeepKeys4
import Derived.WideKeyEntry
namespace Go.Proofs.YtkkecgamaahniaaGreat
open Go.RowKit
open Go.Proofs
open Go.Maps
open WoolBag
open WoolVol

theorem laidOut : laidOutB Tryz.prog = true := by kernel_rfl
theorem idRow : (75 : TypeId) < Tryz.prog.types.size := of_decide_eq_true (by kernel_rfl)
theorem idWide : (match Tryz.prog.underlying 75 with | some (.array _ _) | some (.struct _) => true | _ => false) = true := by kernel_rfl
theorem idKT : Tryz.prog.keyTypeAt 2 75 = true := by kernel_rfl

set_option maxRecDepth 100000 in
theorem idKey : WideMaps.KeyLaw Tryz.prog 75 := deep_law_laid laidOut (m := 2) (by decide) idRow idKT idWide

theorem idLaw : Keyed Tryz.prog 75 := Keyed.of_law idKey
theorem intZero (w : World) : (zeroValue 3).run Tryz.prog w = .ok (.int .i64 0) w := by kernel_rfl
theorem cellsId : Tryz.prog.cellsOf 75 = 3 := by kernel_rfl
theorem cellsBoolU : Tryz.prog.cellsOf 4 = 1 := by kernel_rfl
theorem cellsIntU : Tryz.prog.cellsOf 3 = 1 := by kernel_rfl

/-- an identifier as a key -/
def klit (i : Idn) : Lit := .string (keyBytes [.bool i.1, .int .i64 i.2.1, .int .i64 i.2.2])

set_option maxRecDepth 100000 in
theorem key_of (i : Idn) (h : WfI i) : keyOf Tryz.prog 75 (idV i) = some (klit i) := by
  obtain ⟨b, s, n⟩ := i
  obtain ⟨h1, h2⟩ := h
  simp only at h1 h2
  obtain ⟨m, hm⟩ : ∃ m, Tryz.prog.types.size = m + 1 := ⟨Tryz.prog.types.size - 1, (Nat.succ_pred_eq_of_pos (Nat.lt_of_le_of_lt (Nat.zero_le _) idRow)).symm⟩
  have hk : Tryz.prog.keyType 75 = true := by kernel_rfl
  have hf : (idV (b, s, n)).formed Tryz.prog 75 = true := by simp [Value.formed, Tryz.underlying75, cellsId, idV]
  have hc : (idV (b, s, n)).cells.toList = [.bool b, .int .i64 s, .int .i64 n] := rfl
  simp [keyOf, Tryz.underlying75, hk, hf, hc, hm, Program.keyLits, Tryz.underlying4, Tryz.underlying3, cellsId, cellsBoolU, cellsIntU, h1, h2, klit]

theorem klit_inj {i j : Idn} (hi : WfI i) (hj : WfI j) (h : klit i = klit j) : i = j := by
  have h1 := key_of i hi
  have h2 := key_of j hj
  rw [← h] at h2
  have h3 := idLaw.inj h1 h2
  obtain ⟨a, b, c⟩ := i
  obtain ⟨a', b', c'⟩ := j
  unfold idV at h3
  simp at h3
  simp [h3]

/-- a map that has h's keys, and answers c -/
def MapF (w : World) (B n : Nat) (h : Idn → Bool) (c : Idn → Int) : Prop :=
  ∃ D : DataW Unit, w.ownsMap Tryz.prog 75 (plainElem Tryz.prog 3) B n D ∧ ∀ i, WfI i → Maps.has D (klit i) = h i ∧ D.atKey (klit i) (.lit (.int .i64 0)) = .lit (.int .i64 (c i))

theorem MapF.congr {w : World} {B n : Nat} {h h' : Idn → Bool} {c c' : Idn → Int} (k : MapF w B n h c) (e1 : ∀ i, h i = h' i) (e2 : ∀ i, c i = c' i) : MapF w B n h' c' := by
  obtain ⟨D, h1, h2⟩ := k
  exact ⟨D, h1, fun i hi => ⟨(h2 i hi).1.trans (e1 i), by rw [(h2 i hi).2, e2 i]⟩⟩
theorem MapF.kept {w w' : World} {B n : Nat} {h : Idn → Bool} {c : Idn → Int} {row : Option Nat} (k : MapF w B n h c) (hg : w.grownBy w' row) (hne : some B ≠ row) : MapF w' B n h c := by
  obtain ⟨D, h1, h2⟩ := k
  exact ⟨D, h1.kept hg hne, h2⟩
theorem MapF.lt {w : World} {B n : Nat} {h : Idn → Bool} {c : Idn → Int} (k : MapF w B n h c) : B < w.heap.size := by
  obtain ⟨D, h1, h2⟩ := k
  exact h1.lt
theorem MapF.mono {w : World} {B n n' : Nat} {h : Idn → Bool} {c : Idn → Int} (k : MapF w B n h c) (hn : n ≤ n') : MapF w B n' h c := by
  obtain ⟨D, h1, h2⟩ := k
  exact ⟨D, h1.mono hn, h2⟩
theorem MapF.below {w w' : World} {B n N : Nat} {h : Idn → Bool} {c : Idn → Int} (k : MapF w B n h c) (hb : Below N w w') (hB : B < N) : MapF w' B n h c := by
  obtain ⟨D, h1, h2⟩ := k
  refine ⟨D, ?_, h2⟩
  unfold World.ownsMap at h1 ⊢
  rw [hb.block B hB]
  exact h1
theorem MapF.up {w w' : World} {B n : Nat} {h : Idn → Bool} {c : Idn → Int} (k : MapF w B n h c) (hb : Up w w') : MapF w' B n h c := k.below hb k.lt
theorem MapF.made (w : World) : MapF (w.alloc (.map #[] 0)) w.heap.size 0 (fun _ => false) (fun _ => 0) :=
  ⟨.map [], World.ownsMap_made w _ _ _, fun _ _ => ⟨rfl, rfl⟩⟩

theorem wp_look {w : World} {ops : Array Oper} {rest : List Oper} {o : Oper} {a : Act} {Q : Exit → Act → World → Prop}
    (hg : o.guard = none) (m x : Operand) (hop : o.op = Op.lookup 78 m x false) (B n : Nat) (h : Idn → Bool) (c : Idn → Int)
    (hm : a.eval m = .map (some B)) (hown : MapF w B n h c) (i : Idn) (hi : WfI i) (hx : a.eval x = idV i)
    (hK : (Lit.int .i64 (c i)).wf = true → wpList Tryz.prog ops Q rest (a.put o.dst (.int .i64 (c i))) w) :
    wpList Tryz.prog ops Q (o :: rest) a w := by
  obtain ⟨D, h1, h2⟩ := hown
  refine wpList_lookup_own_int w hg m x _ hop 75 3 .i64 idLaw Tryz.underlying78 Tryz.underlying3 (intZero _) B n D hm h1 _ _ hx (key_of i hi) ?_
  intro z hz hwz
  rw [(h2 i hi).2] at hz
  cases hz
  exact hK hwz

theorem wp_look_ok {w : World} {ops : Array Oper} {rest : List Oper} {o : Oper} {a : Act} {Q : Exit → Act → World → Prop}
    (hg : o.guard = none) (m x : Operand) (hop : o.op = Op.lookup 78 m x true) (B n : Nat) (h : Idn → Bool) (c : Idn → Int)
    (hm : a.eval m = .map (some B)) (hown : MapF w B n h c) (i : Idn) (hi : WfI i) (hx : a.eval x = idV i)
    (hK : wpList Tryz.prog ops Q rest (a.put o.dst (.tuple #[.int .i64 (c i), .bool (h i)])) w) :
    wpList Tryz.prog ops Q (o :: rest) a w := by
  obtain ⟨D, h1, h2⟩ := hown
  refine wpList_lookup_own_ok_int w hg m x _ hop 75 3 .i64 idLaw Tryz.underlying78 Tryz.underlying3 (intZero _) B n D hm h1 _ _ hx (key_of i hi) ?_
  intro z hz hwz
  rw [(h2 i hi).2] at hz
  cases hz
  rw [(h2 i hi).1]
  exact hK

theorem isKey_klit (i : Idn) : WideAt.IsKeyLit (klit i) := trivial

theorem wp_store {w : World} {ops : Array Oper} {rest : List Oper} {o : Oper} {a : Act} {Q : Exit → Act → World → Prop}
    (hg : o.guard = none) (m x v : Operand) (hop : o.op = Op.mapUpdate 78 m x v) (B n : Nat) (h : Idn → Bool) (c : Idn → Int)
    (hm : a.eval m = .map (some B)) (hown : MapF w B n h c) (hn : n < maxLen) (i : Idn) (hi : WfI i) (z : Int) (hz : (Lit.int .i64 z).wf = true) (hx : a.eval x = idV i) (hv : a.eval v = .int .i64 z)
    (hK : ∀ w', MapF w' B (n + 1) (fun j => (j == i) || h j) (fun j => if j = i then z else c j) → w.grownBy w' (some B) → wpList Tryz.prog ops Q rest (a.put o.dst undef) w') :
    wpList Tryz.prog ops Q (o :: rest) a w := by
  obtain ⟨D, h1, h2⟩ := hown
  refine wpList_mapUpdate_own w hg m x v _ hop 75 3 idLaw Tryz.underlying78 _ B n D hm h1 hn _ _ _ hx hv (key_of i hi) _ [] (plainElem_int Tryz.underlying3 hz) ?_
  intro w' h3 h4
  refine hK w' ⟨_, h3, fun j hj => ?_⟩ h4
  by_cases e : j = i
  · subst e
    rw [has_put_same h1.isMap (isKey_klit _), atKey_put_same h1.isMap (isKey_klit _)]
    simp
  · have hne : klit j ≠ klit i := fun he => e (klit_inj hj hi he)
    rw [has_put_other hne, atKey_put_other hne]
    have := h2 j hj
    simp [e, this]

theorem setBlock_self {w : World} {b : Nat} {o : Obj} (h : w.heap[b]? = some o) : ChangeMaps.setBlock w b o = w := by
  have e : w.heap.setIfInBounds b o = w.heap := by
    apply Array.ext_getElem?
    intro i
    rw [Array.getElem?_setIfInBounds]
    split
    · rename_i hi
      subst hi
      rw [if_pos (Array.getElem?_eq_some_iff.1 h).1, h]
    · rfl
  unfold ChangeMaps.setBlock
  rw [e]

set_option maxRecDepth 100000 in
/-- an entry that is there, for 'm[k]++' -/
theorem MapF.inc {w : World} {B n : Nat} {h : Idn → Bool} {c : Idn → Int} (k : MapF w B n h c) (hn : n < maxLen) (i : Idn) (hi : WfI i) (hh : h i = true) :
    ∃ st : Nat, (Instr.mapEntry 78 (.map (some B)) (idV i)).run Tryz.prog w = .ok (.tuple #[.int .i64 (c i), goInt st]) w ∧
      (Instr.lookup 78 (.map (some B)) (idV i) false).run Tryz.prog w = .ok (.int .i64 (c i)) w ∧ (Lit.int .i64 (c i)).wf = true ∧
      ∀ z, (Lit.int .i64 z).wf = true → ∃ w', (Instr.entryStore 78 (.map (some B)) (goInt st) (.int .i64 z)).run Tryz.prog w = .ok () w' ∧ MapF w' B (n + 1) (fun j => (j == i) || h j) (fun j => if j = i then z else c j) ∧ w.grownBy w' (some B) := by
  obtain ⟨D, hown, h2⟩ := k
  have hkey := key_of i hi
  obtain ⟨z0, hrun, hat, hwz⟩ := hown.lookup_int idLaw Tryz.underlying78 Tryz.underlying3 (intZero _) hkey
  have hs2 : ∀ z, (Lit.int .i64 z).wf = true → ∃ w', (Instr.mapUpdate 78 (.map (some B)) (idV i) (.int .i64 z)).run Tryz.prog w = .ok () w' ∧ w'.ownsMap Tryz.prog 75 (plainElem Tryz.prog 3) B (n + 1) (D.put (klit i) (.lit (.int .i64 z))) ∧ w.grownBy w' (some B) := fun z hz =>
    hown.update idLaw Tryz.underlying78 hn hkey (plainElem_int Tryz.underlying3 hz)
  have hM : Maps.IsMap D := hown.isMap
  rw [(h2 i hi).2] at hat
  cases hat
  obtain ⟨es, clock, hb, F, hs, hD⟩ := hown
  obtain ⟨v0, st, es1, clock1, hE, hor, hS⟩ := WideElems.entry_then_store idKey Tryz.underlying78 (fun u => intZero u) hb F hkey
  have hpres : ∃ e0 ∈ es.toList, e0.key = idV i := by
    rcases Maps.fit_look false idLaw Tryz.underlying78 (intZero _) hb F hkey with ⟨_, _, hz⟩ | ⟨e0, y, h3, h4, _⟩
    · exfalso
      rw [← hD] at hz
      have := has_false_of_atKey hz
      rw [(h2 i hi).1, hh] at this
      cases this
    · exact ⟨e0, h3, h4⟩
  have hdir : ∃ e0 : MapEntry, (Instr.mapEntry 78 (.map (some B)) (idV i)).run Tryz.prog w = .ok (.tuple #[e0.val, goInt e0.born]) w ∧ e0 ∈ es.toList ∧ e0.key = idV i ∧ (Instr.lookup 78 (.map (some B)) (idV i) false).run Tryz.prog w = .ok e0.val w := by
    rcases idKey.find w hkey es.toList F.keys with ⟨h1, h3⟩ | ⟨j, e0, h1, h3, h4⟩
    · obtain ⟨e0, h5, h6⟩ := hpres
      exact absurd h6 (h3 e0 h5)
    · have hj : es[j]? = some e0 := by simpa using h3
      have hsame : es.modify j (fun e => { e with key := idV i }) = es := by
        apply Array.ext'
        rw [Array.toList_modify, ChangeMaps.modify_eq_set _ _ _ _ h3]
        have : ({ e0 with key := idV i } : MapEntry) = e0 := by rw [← h4]
        rw [this]
        exact WideElems.set_self _ _ _ h3
      refine ⟨e0, ?_, List.mem_of_getElem? h3, h4, by simp [Instr.lookup, run_underlying Tryz.underlying78, MapKept.run_getObj_map hb, idLaw.check w _ hkey, h1, Result.andThen]⟩
      have hself := setBlock_self hb
      unfold ChangeMaps.setBlock at hself
      simp [Instr.mapEntry, run_underlying Tryz.underlying78, MapKept.run_getObj_map hb, idKey.check w false hkey, h1, hj, h4, idKey.stays w hkey, hsame, MapKept.run_setObj_map _ hb, Result.andThen, hself]
  obtain ⟨e0, hdr, he0, hk0, hlk⟩ := hdir
  rw [hdr] at hE
  simp only [Result.ok.injEq, Value.tuple.injEq] at hE
  obtain ⟨hE1, hE2⟩ := hE
  have hv0 : e0.val = v0 ∧ goInt e0.born = goInt st := by simpa using hE1
  have hb1 : w.heap[B]? = some (.map es1 clock1) := by
    rw [hE2]; exact ChangeMaps.heap_setBlock_same hb _
  have hval : e0.val = .int .i64 (c i) := by
    rw [hrun] at hlk
    simp only [Result.ok.injEq, and_true] at hlk
    exact hlk.symm
  refine ⟨st, ?_, hrun, hwz, fun z hz => ?_⟩
  · rw [hdr, hval, hv0.2]
  · obtain ⟨es', clock', hS1, hS2⟩ := hS w (.int .i64 z) hb1
    obtain ⟨w', hu1, hu2, hu3⟩ := hs2 z hz
    rw [hS2] at hu1
    simp only [Result.ok.injEq, true_and] at hu1
    subst hu1
    refine ⟨_, hS1, ⟨_, hu2, fun j hj => ?_⟩, hu3⟩
    by_cases e : j = i
    · subst e
      rw [has_put_same hM (isKey_klit _), atKey_put_same hM (isKey_klit _)]
      simp
    · have hne : klit j ≠ klit i := fun he => e (klit_inj hj hi he)
      rw [has_put_other hne, atKey_put_other hne]
      have := h2 j hj
      simp [e, this]

/-- the uses: the identifiers of l, each with how often it stands in all -/
def hasU (l : List Itm) (i : Idn) : Bool := l.any (idB i)
def useU (l : List Itm) (all : List Idn) (i : Idn) : Int := if l.any (idB i) then cnt all i else 0
def Uses (w : World) (B n : Nat) (l : List Itm) (all : List Idn) : Prop := MapF w B n (hasU l) (useU l all)

theorem Uses.start {w : World} {B n : Nat} {l : List Itm} {x : Itm} (k : MapF w B n (fun j => (j == idOf x) || hasU l j) (fun j => if j = idOf x then 0 else useU l [] j)) : Uses w B n (l ++ [x]) [] := by
  have e : ∀ i, hasU (l ++ [x]) i = ((i == idOf x) || hasU l i) := by
    intro i
    unfold hasU
    rw [List.any_append, Bool.or_comm]
    congr 1
    rw [List.any_cons, List.any_nil, Bool.or_false]
    rw [Bool.eq_iff_iff, idB_iff, beq_iff_eq]
  refine k.congr (fun i => (e i).symm) (fun i => ?_)
  unfold useU
  simp only [cnt_nil, ite_self]

theorem Uses.more {w : World} {B n : Nat} {l : List Itm} {all : List Idn} {i : Idn} (h : l.any (idB i) = true) (k : MapF w B n (fun j => (j == i) || hasU l j) (fun j => if j = i then cnt all i + 1 else useU l all j)) : Uses w B n l (all ++ [i]) := by
  refine k.congr (fun j => ?_) (fun j => ?_)
  · by_cases e : j = i
    · subst e; simp [hasU, h]
    · simp [e]
  · unfold useU
    by_cases e : j = i
    · subst e; simp [h, cnt_snoc]
    · simp [e, cnt_snoc, Ne.symm e]

theorem Uses.hole {w : World} {B n : Nat} {l : List Itm} {all : List Idn} {i : Idn} (h : i.1 = false) (k : Uses w B n l all) : Uses w B n l (all ++ [i]) := by
  refine k.congr (fun j => rfl) (fun j => ?_)
  unfold useU
  by_cases e : l.any (idB j) = true
  · rw [if_pos e, if_pos e, cnt_snoc]
    have : ¬ i = j := by
      rintro rfl
      rw [List.any_eq_true] at e
      obtain ⟨x, _, hx⟩ := e
      unfold idB at hx
      simp [h] at hx
    rw [if_neg this]; omega
  · rw [if_neg e, if_neg e]

theorem Uses.up {w w' : World} {B n : Nat} {l : List Itm} {all : List Idn} (k : Uses w B n l all) (hb : Up w w') : Uses w' B n l all := MapF.up k hb

end Go.Proofs.YtkkecgamaahniaaGreat
