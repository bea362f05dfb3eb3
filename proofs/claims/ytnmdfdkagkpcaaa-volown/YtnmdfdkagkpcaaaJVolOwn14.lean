/-
  The texts VolU, Print, one behind the other; each says below what it holds and on what conditions.
-/
import Derived.Test.YtnmdfdkagkpcaaaJVolOwn13
import Derived.Test.YtnmdfdkagkpcaaaJVolOwn09
import Derived.Maps.OwnSet
import Derived.Maps.OwnOps
import Derived.DeepKeys4
import Derived.WideKeyEntry
import Derived.Test.YtnmdfdkagkpcaaaJVolOwn04
import Derived.Deep.RegionHeld3

/-
  The numbers of uses, by identifier: a map that reads so (MapF, Uses), its look-ups and its stores. Conditions: as each says.
-/
namespace Go.Proofs.Ytnmdfdkagkpcaaa
open Go.RowKit
open Go.Proofs
open Go.Maps
open WoolBag
open WoolVol

theorem laidOut : laidOutB Try.prog = true := by kernel_rfl
theorem idRow : (51 : TypeId) < Try.prog.types.size := of_decide_eq_true (by kernel_rfl)
theorem idWide : (match Try.prog.underlying 51 with | some (.array _ _) | some (.struct _) => true | _ => false) = true := by kernel_rfl
theorem idKT : Try.prog.keyTypeAt 2 51 = true := by kernel_rfl

set_option maxRecDepth 100000 in
theorem idKey : WideMaps.KeyLaw Try.prog 51 := deep_law_laid laidOut (m := 2) (by decide) idRow idKT idWide

theorem idLaw : Keyed Try.prog 51 := Keyed.of_law idKey
theorem intZero (w : World) : (zeroValue 3).run Try.prog w = .ok (.int .i64 0) w := by kernel_rfl
theorem cellsId : Try.prog.cellsOf 51 = 3 := by kernel_rfl
theorem cellsBoolU : Try.prog.cellsOf 4 = 1 := by kernel_rfl
theorem cellsIntU : Try.prog.cellsOf 3 = 1 := by kernel_rfl

/-- an identifier as a key -/
def klit (i : Idn) : Lit := .string (keyBytes [.bool i.1, .int .i64 i.2.1, .int .i64 i.2.2])

set_option maxRecDepth 100000 in
theorem key_of (i : Idn) (h : WfI i) : keyOf Try.prog 51 (idV i) = some (klit i) := by
  obtain ⟨b, s, n⟩ := i
  obtain ⟨h1, h2⟩ := h
  simp only at h1 h2
  obtain ⟨m, hm⟩ : ∃ m, Try.prog.types.size = m + 1 := ⟨Try.prog.types.size - 1, (Nat.succ_pred_eq_of_pos (Nat.lt_of_le_of_lt (Nat.zero_le _) idRow)).symm⟩
  have hk : Try.prog.keyType 51 = true := by kernel_rfl
  have hf : (idV (b, s, n)).formed Try.prog 51 = true := by simp [Value.formed, Try.underlying51, cellsId, idV]
  have hc : (idV (b, s, n)).cells.toList = [.bool b, .int .i64 s, .int .i64 n] := rfl
  simp [keyOf, Try.underlying51, hk, hf, hc, hm, Program.keyLits, Try.underlying4, Try.underlying3, cellsId, cellsBoolU, cellsIntU, h1, h2, klit]

theorem klit_inj {i j : Idn} (hi : WfI i) (hj : WfI j) (h : klit i = klit j) : i = j := by
  have h1 := key_of i hi
  have h2 := key_of j hj
  rw [← h] at h2
  have h3 := idLaw.inj h1 h2
  obtain ⟨a, b, c⟩ := i
  obtain ⟨a', b', c'⟩ := j
  unfold idV at h3
  simp at h3
  simp [h3]

/-- a map that has h's keys, and answers c -/
def MapF (w : World) (B n : Nat) (h : Idn → Bool) (c : Idn → Int) : Prop :=
  ∃ D : DataW Unit, w.ownsMap Try.prog 51 (plainElem Try.prog 3) B n D ∧ ∀ i, WfI i → Maps.has D (klit i) = h i ∧ D.atKey (klit i) (.lit (.int .i64 0)) = .lit (.int .i64 (c i))

theorem MapF.congr {w : World} {B n : Nat} {h h' : Idn → Bool} {c c' : Idn → Int} (k : MapF w B n h c) (e1 : ∀ i, h i = h' i) (e2 : ∀ i, c i = c' i) : MapF w B n h' c' := by
  obtain ⟨D, h1, h2⟩ := k
  exact ⟨D, h1, fun i hi => ⟨(h2 i hi).1.trans (e1 i), by rw [(h2 i hi).2, e2 i]⟩⟩
theorem MapF.kept {w w' : World} {B n : Nat} {h : Idn → Bool} {c : Idn → Int} {row : Option Nat} (k : MapF w B n h c) (hg : w.grownBy w' row) (hne : some B ≠ row) : MapF w' B n h c := by
  obtain ⟨D, h1, h2⟩ := k
  exact ⟨D, h1.kept hg hne, h2⟩
theorem MapF.lt {w : World} {B n : Nat} {h : Idn → Bool} {c : Idn → Int} (k : MapF w B n h c) : B < w.heap.size := by
  obtain ⟨D, h1, h2⟩ := k
  exact h1.lt
theorem MapF.mono {w : World} {B n n' : Nat} {h : Idn → Bool} {c : Idn → Int} (k : MapF w B n h c) (hn : n ≤ n') : MapF w B n' h c := by
  obtain ⟨D, h1, h2⟩ := k
  exact ⟨D, h1.mono hn, h2⟩
theorem MapF.below {w w' : World} {B n N : Nat} {h : Idn → Bool} {c : Idn → Int} (k : MapF w B n h c) (hb : Below N w w') (hB : B < N) : MapF w' B n h c := by
  obtain ⟨D, h1, h2⟩ := k
  refine ⟨D, ?_, h2⟩
  unfold World.ownsMap at h1 ⊢
  rw [hb.block B hB]
  exact h1
theorem MapF.up {w w' : World} {B n : Nat} {h : Idn → Bool} {c : Idn → Int} (k : MapF w B n h c) (hb : Up w w') : MapF w' B n h c := k.below hb k.lt
theorem MapF.made (w : World) : MapF (w.alloc (.map #[] 0)) w.heap.size 0 (fun _ => false) (fun _ => 0) :=
  ⟨.map [], World.ownsMap_made w _ _ _, fun _ _ => ⟨rfl, rfl⟩⟩

theorem wp_look {w : World} {ops : Array Oper} {rest : List Oper} {o : Oper} {a : Act} {Q : Exit → Act → World → Prop}
    (hg : o.guard = none) (m x : Operand) (hop : o.op = Op.lookup 77 m x false) (B n : Nat) (h : Idn → Bool) (c : Idn → Int)
    (hm : a.eval m = .map (some B)) (hown : MapF w B n h c) (i : Idn) (hi : WfI i) (hx : a.eval x = idV i)
    (hK : (Lit.int .i64 (c i)).wf = true → wpList Try.prog ops Q rest (a.put o.dst (.int .i64 (c i))) w) :
    wpList Try.prog ops Q (o :: rest) a w := by
  obtain ⟨D, h1, h2⟩ := hown
  refine wpList_lookup_own_int w hg m x _ hop 51 3 .i64 idLaw Try.underlying77 Try.underlying3 (intZero _) B n D hm h1 _ _ hx (key_of i hi) ?_
  intro z hz hwz
  rw [(h2 i hi).2] at hz
  cases hz
  exact hK hwz

theorem wp_look_ok {w : World} {ops : Array Oper} {rest : List Oper} {o : Oper} {a : Act} {Q : Exit → Act → World → Prop}
    (hg : o.guard = none) (m x : Operand) (hop : o.op = Op.lookup 77 m x true) (B n : Nat) (h : Idn → Bool) (c : Idn → Int)
    (hm : a.eval m = .map (some B)) (hown : MapF w B n h c) (i : Idn) (hi : WfI i) (hx : a.eval x = idV i)
    (hK : wpList Try.prog ops Q rest (a.put o.dst (.tuple #[.int .i64 (c i), .bool (h i)])) w) :
    wpList Try.prog ops Q (o :: rest) a w := by
  obtain ⟨D, h1, h2⟩ := hown
  refine wpList_lookup_own_ok_int w hg m x _ hop 51 3 .i64 idLaw Try.underlying77 Try.underlying3 (intZero _) B n D hm h1 _ _ hx (key_of i hi) ?_
  intro z hz hwz
  rw [(h2 i hi).2] at hz
  cases hz
  rw [(h2 i hi).1]
  exact hK

theorem isKey_klit (i : Idn) : WideAt.IsKeyLit (klit i) := trivial

theorem wp_store {w : World} {ops : Array Oper} {rest : List Oper} {o : Oper} {a : Act} {Q : Exit → Act → World → Prop}
    (hg : o.guard = none) (m x v : Operand) (hop : o.op = Op.mapUpdate 77 m x v) (B n : Nat) (h : Idn → Bool) (c : Idn → Int)
    (hm : a.eval m = .map (some B)) (hown : MapF w B n h c) (hn : n < maxLen) (i : Idn) (hi : WfI i) (z : Int) (hz : (Lit.int .i64 z).wf = true) (hx : a.eval x = idV i) (hv : a.eval v = .int .i64 z)
    (hK : ∀ w', MapF w' B (n + 1) (fun j => (j == i) || h j) (fun j => if j = i then z else c j) → w.grownBy w' (some B) → wpList Try.prog ops Q rest (a.put o.dst undef) w') :
    wpList Try.prog ops Q (o :: rest) a w := by
  obtain ⟨D, h1, h2⟩ := hown
  refine wpList_mapUpdate_own w hg m x v _ hop 51 3 idLaw Try.underlying77 _ B n D hm h1 hn _ _ _ hx hv (key_of i hi) _ [] (plainElem_int Try.underlying3 hz) ?_
  intro w' h3 h4
  refine hK w' ⟨_, h3, fun j hj => ?_⟩ h4
  by_cases e : j = i
  · subst e
    rw [has_put_same h1.isMap (isKey_klit _), atKey_put_same h1.isMap (isKey_klit _)]
    simp
  · have hne : klit j ≠ klit i := fun he => e (klit_inj hj hi he)
    rw [has_put_other hne, atKey_put_other hne]
    have := h2 j hj
    simp [e, this]

theorem setBlock_self {w : World} {b : Nat} {o : Obj} (h : w.heap[b]? = some o) : ChangeMaps.setBlock w b o = w := by
  have e : w.heap.setIfInBounds b o = w.heap := by
    apply Array.ext_getElem?
    intro i
    rw [Array.getElem?_setIfInBounds]
    split
    · rename_i hi
      subst hi
      rw [if_pos (Array.getElem?_eq_some_iff.1 h).1, h]
    · rfl
  unfold ChangeMaps.setBlock
  rw [e]

set_option maxRecDepth 100000 in
/-- an entry that is there, for 'm[k]++' -/
theorem MapF.inc {w : World} {B n : Nat} {h : Idn → Bool} {c : Idn → Int} (k : MapF w B n h c) (hn : n < maxLen) (i : Idn) (hi : WfI i) (hh : h i = true) :
    ∃ st : Nat, (Instr.mapEntry 77 (.map (some B)) (idV i)).run Try.prog w = .ok (.tuple #[.int .i64 (c i), goInt st]) w ∧
      (Instr.lookup 77 (.map (some B)) (idV i) false).run Try.prog w = .ok (.int .i64 (c i)) w ∧ (Lit.int .i64 (c i)).wf = true ∧
      ∀ z, (Lit.int .i64 z).wf = true → ∃ w', (Instr.entryStore 77 (.map (some B)) (goInt st) (.int .i64 z)).run Try.prog w = .ok () w' ∧ MapF w' B (n + 1) (fun j => (j == i) || h j) (fun j => if j = i then z else c j) ∧ w.grownBy w' (some B) := by
  obtain ⟨D, hown, h2⟩ := k
  have hkey := key_of i hi
  obtain ⟨z0, hrun, hat, hwz⟩ := hown.lookup_int idLaw Try.underlying77 Try.underlying3 (intZero _) hkey
  have hs2 : ∀ z, (Lit.int .i64 z).wf = true → ∃ w', (Instr.mapUpdate 77 (.map (some B)) (idV i) (.int .i64 z)).run Try.prog w = .ok () w' ∧ w'.ownsMap Try.prog 51 (plainElem Try.prog 3) B (n + 1) (D.put (klit i) (.lit (.int .i64 z))) ∧ w.grownBy w' (some B) := fun z hz =>
    hown.update idLaw Try.underlying77 hn hkey (plainElem_int Try.underlying3 hz)
  have hM : Maps.IsMap D := hown.isMap
  rw [(h2 i hi).2] at hat
  cases hat
  obtain ⟨es, clock, hb, F, hs, hD⟩ := hown
  obtain ⟨v0, st, es1, clock1, hE, hor, hS⟩ := WideElems.entry_then_store idKey Try.underlying77 (fun u => intZero u) hb F hkey
  have hpres : ∃ e0 ∈ es.toList, e0.key = idV i := by
    rcases Maps.fit_look false idLaw Try.underlying77 (intZero _) hb F hkey with ⟨_, _, hz⟩ | ⟨e0, y, h3, h4, _⟩
    · exfalso
      rw [← hD] at hz
      have := has_false_of_atKey hz
      rw [(h2 i hi).1, hh] at this
      cases this
    · exact ⟨e0, h3, h4⟩
  have hdir : ∃ e0 : MapEntry, (Instr.mapEntry 77 (.map (some B)) (idV i)).run Try.prog w = .ok (.tuple #[e0.val, goInt e0.born]) w ∧ e0 ∈ es.toList ∧ e0.key = idV i ∧ (Instr.lookup 77 (.map (some B)) (idV i) false).run Try.prog w = .ok e0.val w := by
    rcases idKey.find w hkey es.toList F.keys with ⟨h1, h3⟩ | ⟨j, e0, h1, h3, h4⟩
    · obtain ⟨e0, h5, h6⟩ := hpres
      exact absurd h6 (h3 e0 h5)
    · have hj : es[j]? = some e0 := by simpa using h3
      have hsame : es.modify j (fun e => { e with key := idV i }) = es := by
        apply Array.ext'
        rw [Array.toList_modify, ChangeMaps.modify_eq_set _ _ _ _ h3]
        have : ({ e0 with key := idV i } : MapEntry) = e0 := by rw [← h4]
        rw [this]
        exact WideElems.set_self _ _ _ h3
      refine ⟨e0, ?_, List.mem_of_getElem? h3, h4, by simp [Instr.lookup, run_underlying Try.underlying77, MapKept.run_getObj_map hb, idLaw.check w _ hkey, h1, Result.andThen]⟩
      have hself := setBlock_self hb
      unfold ChangeMaps.setBlock at hself
      simp [Instr.mapEntry, run_underlying Try.underlying77, MapKept.run_getObj_map hb, idKey.check w false hkey, h1, hj, h4, idKey.stays w hkey, hsame, MapKept.run_setObj_map _ hb, Result.andThen, hself]
  obtain ⟨e0, hdr, he0, hk0, hlk⟩ := hdir
  rw [hdr] at hE
  simp only [Result.ok.injEq, Value.tuple.injEq] at hE
  obtain ⟨hE1, hE2⟩ := hE
  have hv0 : e0.val = v0 ∧ goInt e0.born = goInt st := by simpa using hE1
  have hb1 : w.heap[B]? = some (.map es1 clock1) := by
    rw [hE2]; exact ChangeMaps.heap_setBlock_same hb _
  have hval : e0.val = .int .i64 (c i) := by
    rw [hrun] at hlk
    simp only [Result.ok.injEq, and_true] at hlk
    exact hlk.symm
  refine ⟨st, ?_, hrun, hwz, fun z hz => ?_⟩
  · rw [hdr, hval, hv0.2]
  · obtain ⟨es', clock', hS1, hS2⟩ := hS w (.int .i64 z) hb1
    obtain ⟨w', hu1, hu2, hu3⟩ := hs2 z hz
    rw [hS2] at hu1
    simp only [Result.ok.injEq, true_and] at hu1
    subst hu1
    refine ⟨_, hS1, ⟨_, hu2, fun j hj => ?_⟩, hu3⟩
    by_cases e : j = i
    · subst e
      rw [has_put_same hM (isKey_klit _), atKey_put_same hM (isKey_klit _)]
      simp
    · have hne : klit j ≠ klit i := fun he => e (klit_inj hj hi he)
      rw [has_put_other hne, atKey_put_other hne]
      have := h2 j hj
      simp [e, this]

/-- the uses: the identifiers of l, each with how often it stands in all -/
def hasU (l : List Itm) (i : Idn) : Bool := l.any (idB i)
def useU (l : List Itm) (all : List Idn) (i : Idn) : Int := if l.any (idB i) then cnt all i else 0
def Uses (w : World) (B n : Nat) (l : List Itm) (all : List Idn) : Prop := MapF w B n (hasU l) (useU l all)

theorem Uses.start {w : World} {B n : Nat} {l : List Itm} {x : Itm} (k : MapF w B n (fun j => (j == idOf x) || hasU l j) (fun j => if j = idOf x then 0 else useU l [] j)) : Uses w B n (l ++ [x]) [] := by
  have e : ∀ i, hasU (l ++ [x]) i = ((i == idOf x) || hasU l i) := by
    intro i
    unfold hasU
    rw [List.any_append, Bool.or_comm]
    congr 1
    rw [List.any_cons, List.any_nil, Bool.or_false]
    rw [Bool.eq_iff_iff, idB_iff, beq_iff_eq]
  refine k.congr (fun i => (e i).symm) (fun i => ?_)
  unfold useU
  simp only [cnt_nil, ite_self]

theorem Uses.more {w : World} {B n : Nat} {l : List Itm} {all : List Idn} {i : Idn} (h : l.any (idB i) = true) (k : MapF w B n (fun j => (j == i) || hasU l j) (fun j => if j = i then cnt all i + 1 else useU l all j)) : Uses w B n l (all ++ [i]) := by
  refine k.congr (fun j => ?_) (fun j => ?_)
  · by_cases e : j = i
    · subst e; simp [hasU, h]
    · simp [e]
  · unfold useU
    by_cases e : j = i
    · subst e; simp [h, cnt_snoc]
    · simp [e, cnt_snoc, Ne.symm e]

theorem Uses.hole {w : World} {B n : Nat} {l : List Itm} {all : List Idn} {i : Idn} (h : i.1 = false) (k : Uses w B n l all) : Uses w B n l (all ++ [i]) := by
  refine k.congr (fun j => rfl) (fun j => ?_)
  unfold useU
  by_cases e : l.any (idB j) = true
  · rw [if_pos e, if_pos e, cnt_snoc]
    have : ¬ i = j := by
      rintro rfl
      rw [List.any_eq_true] at e
      obtain ⟨x, _, hx⟩ := e
      unfold idB at hx
      simp [h] at hx
    rw [if_neg this]; omega
  · rw [if_neg e, if_neg e]

theorem Uses.up {w w' : World} {B n : Nat} {l : List Itm} {all : List Idn} (k : Uses w B n l all) (hb : Up w w') : Uses w' B n l all := MapF.up k hb

end Go.Proofs.Ytnmdfdkagkpcaaa

/-
  What the functions of package print return, at every argument: the error that the document lists first, else the fingerprint by the plain mathematics of polynomials. Conditions: the arguments are ints and strings.
-/
namespace Go.Proofs.Ytnmdfdkagkpcaaa
open Go.RowKit
open Go.Proofs

/-- a text as a polynomial: a 1, and its bits behind it -/
def sp (l : List UInt8) : Nat := l.foldl (fun p c => WoolMath.mul p 256 ^^^ c.toNat) 1

theorem sp_nil : sp [] = 1 := rfl
theorem sp_snoc (l : List UInt8) (c : UInt8) : sp (l ++ [c]) = WoolMath.mul (sp l) 256 ^^^ c.toNat := by
  unfold sp; rw [List.foldl_append]; rfl

/-- the fingerprint -/
def fp (M : Nat) (l : List UInt8) : Nat := WoolMath.pmod (sp l) M

theorem fp_nil (M : Nat) (h : 2 ≤ M) : fp M [] = 1 := by
  unfold fp
  rw [sp_nil]
  refine WoolMath.pmod_small _ _ (by omega) ?_
  have h1 : 1 ≤ M.log2 := (Nat.le_log2 (by omega)).2 h
  exact Nat.one_lt_two_pow (by omega)

theorem fp_snoc (M : Nat) (h : 2 ≤ M) (l : List UInt8) (c : UInt8) :
    fp M (l ++ [c]) = WoolMath.pmod (WoolMath.mul (fp M l) 256) M ^^^ WoolMath.pmod c.toNat M := by
  unfold fp
  rw [sp_snoc, WoolMath.pmod_xor _ _ _ (by omega), WoolMath.pmod_mul_left _ _ _ (by omega)]

theorem fp_lt (M : Nat) (h : 2 ≤ M) (l : List UInt8) : fp M l < 2 ^ M.log2 := WoolMath.pmod_lt _ _ (by omega)
theorem fp_le (M : Nat) (h : 2 ≤ M) (h2 : M ≤ 2147483647) (l : List UInt8) : fp M l < 1073741824 := pmod_le _ _ (by omega) h2

theorem mod_ok (m : Int) (w : World) (h0 : 2 ≤ m) (h1 : m ≤ 2147483647) :
    Calls Try.prog 95 #[.int .i64 m] w fun e w' => e = .returned (.int .i64 0) ∧ w = w' := by
  have d1 : decide (m < 2) = false := by rw [decide_eq_false_iff_not]; omega
  go_enter Try.func95, Try.ntmps95
  go_wp2_with (go_at_call 100; refine (check_ok _ _ (by omega) h1).mono ?_; rintro e w' ⟨rfl, rfl⟩)
  go_ret
  exact ⟨rfl, rfl⟩

theorem mod_bad (m : Int) (w : World) (h : m < 2 ∨ 2147483647 < m) :
    Calls Try.prog 95 #[.int .i64 m] w fun e w' => e = .returned (.int .i64 1) ∧ w = w' := by
  by_cases h0 : m < 2
  · have d1 : decide (m < 2) = true := by rw [decide_eq_true_iff]; omega
    clear h
    go_enter Try.func95, Try.ntmps95
    go_wp2
    go_ret
    exact ⟨rfl, rfl⟩
  · have d1 : decide (m < 2) = false := by rw [decide_eq_false_iff_not]; omega
    have hb : m < 0 ∨ 2147483647 < m := by omega
    have HB := Lib.hid hb
    clear h hb
    go_enter Try.func95, Try.ntmps95
    go_wp2_with (go_at_call 100; refine (check_bad _ _ HB.out).mono ?_; rintro e w' ⟨rfl, rfl⟩)
    go_ret
    exact ⟨rfl, rfl⟩

theorem times_any (A B M : Nat) (w : World) (hA : A ≤ 2147483647) (hB : B ≤ 2147483647) (hM0 : 0 < M) (hM : M ≤ 2147483647) :
    Calls Try.prog 96 #[.int .i64 (A : Int), .int .i64 (B : Int), .int .i64 (M : Int)] w fun e w' => e = .returned (.int .i64 (WoolMath.pmod (WoolMath.mul A B) M : Nat)) ∧ Up w w' := by
  generalize hR : WoolMath.pmod (WoolMath.mul A B) M = R
  have HR := Lib.hid hR
  clear hR
  go_enter Try.func96, Try.ntmps96
  go_wp2_with fail
  refine (modMulN A B M _ hA hB hM0 hM).mono ?_
  rintro e w1 ⟨rfl, u1⟩
  rw [HR.out]
  go_wp2_with fail
  go_ret
  exact ⟨rfl, u1⟩

theorem prem_any (A M : Nat) (w : World) (hA : A ≤ 2147483647) (hM0 : 0 < M) (hM : M ≤ 2147483647) :
    Calls Try.prog 97 #[.int .i64 (A : Int), .int .i64 (M : Int)] w fun e w' => e = .returned (.int .i64 (WoolMath.pmod A M : Nat)) ∧ Up w w' := by
  generalize hR : WoolMath.pmod A M = R
  have HR := Lib.hid hR
  clear hR
  go_enter Try.func97, Try.ntmps97
  go_wp2_with fail
  refine (divN A M _ hA hM0 hM).mono ?_
  rintro e w1 ⟨rfl, u1⟩
  rw [HR.out]
  generalize WoolMath.pdiv A M = Q at *
  go_wp2_with fail
  go_ret
  exact ⟨rfl, u1⟩

/-! ytnmdfdkagkpcaaa# Of -/

def OfRel (M : Nat) (s : ByteArray) (w : World) (p i : Value) (wr : World) : Prop :=
  ∃ k : Nat, k ≤ s.size ∧ i = .int .i64 k ∧ p = .int .i64 (fp M (s.data.toList.take k) : Nat) ∧ Up w wr

set_option maxRecDepth 100000 in
set_option maxHeartbeats 400000 in
theorem of_ok (M : Nat) (s : ByteArray) (w : World) (h0 : 2 ≤ M) (h1 : M ≤ 2147483647) (hs : s.size ≤ 600) :
    Calls Try.prog 89 #[.int .i64 (M : Int), .string s] w fun e w' => e = .returned (.tuple #[.int .i64 (fp M s.data.toList : Nat), .int .i64 0]) ∧ Up w w' := by
  generalize hF : fp M s.data.toList = F
  have HF := Lib.hid hF
  clear hF
  go_enter Try.func89, Try.ntmps89
  go_wp2_with (go_at_call 95; refine (mod_ok _ _ (by omega) (by omega)).mono ?_; rintro e w' ⟨rfl, rfl⟩)
  go_loopw [7, 19] (fun p i wr => OfRel M s w p i wr) (fun _ i _ => s.size - (intOf i).toNat)
  case atStart => exact ⟨0, by omega, rfl, by rw [List.take_zero, fp_nil M h0]; rfl, Up.refl w⟩
  case round =>
    obtain ⟨k, hk, rfl, rfl, hu⟩ := hrel
    have hlt0 := fp_le M h0 h1 (s.data.toList.take k)
    by_cases hlt : k < s.size
    · have hsn := fp_snoc M h0 (s.data.toList.take k) s[k]
      rw [← take_snoc s k hlt] at hsn
      have hc : s[k].toNat < 256 := UInt8.toNat_lt _
      have hx := i64_xor_nat (WoolMath.pmod (WoolMath.mul (fp M (s.data.toList.take k)) 256) M) (WoolMath.pmod s[k].toNat M) (Nat.lt_trans (pmod_le _ _ (by omega) h1) (by decide)) (Nat.lt_trans (pmod_le _ _ (by omega) h1) (by decide))
      rw [← hsn] at hx
      generalize hP : fp M (s.data.toList.take k) = P at *
      generalize hQ : fp M (s.data.toList.take (k + 1)) = Q at *
      generalize hX : WoolMath.pmod (WoolMath.mul P 256) M = X at *
      generalize hY : WoolMath.pmod s[k].toNat M = Y at *
      have HU := Lib.hid hu
      have HQ := Lib.hid hQ
      have HX := Lib.hid hX
      have HY := Lib.hid hY
      have HXY := Lib.hid hx
      have HW := Lib.hid (wrap_i64_nat s[k].toNat (by omega))
      clear hu hQ hP hX hY hsn hx
      go_wp2_with fail
      go_region_held3 (fun _ => True) (trivial) (first
        | (go_at_call 96; refine (times_any P 256 M _ (by omega) (by omega) (by omega) (by omega)).mono ?_; rintro e w1 ⟨rfl, u1⟩; rw [HX.out])
        | (go_at_call 97; rw [HW.out]; refine (prem_any s[k].toNat M _ (by omega) (by omega) (by omega)).mono ?_; rintro e w2 ⟨rfl, u2⟩; rw [HY.out]))
      all_goals
        rw [HXY.out]
        go_wp2_with fail
        go_roundw
        case rel => exact ⟨k + 1, by omega, by go_num, by rw [HQ.out], ((HU.out.trans (Below.drew (Up.refl _))).trans u1).trans u2⟩
        case measure => simp only [intOf]; omega
    · obtain rfl : k = s.size := by omega
      have HT := Lib.hid (show s.data.toList.take s.size = s.data.toList from List.take_of_length_le (by simp))
      rw [HT.out]
      rw [HF.out] at *
      go_wp2_with fail
      go_ret2
      exact ⟨rfl, hu⟩

set_option maxRecDepth 100000 in
theorem of_long (M : Nat) (s : ByteArray) (w : World) (h0 : 2 ≤ M) (h1 : M ≤ 2147483647) (hs : 600 < s.size) :
    Calls Try.prog 89 #[.int .i64 (M : Int), .string s] w fun e w' => e = .returned (.tuple #[.int .i64 0, .int .i64 2]) ∧ w = w' := by
  go_enter Try.func89, Try.ntmps89
  go_wp2_with (go_at_call 95; refine (mod_ok _ _ (by omega) (by omega)).mono ?_; rintro e w' ⟨rfl, rfl⟩)
  go_ret2
  exact ⟨rfl, rfl⟩

set_option maxRecDepth 100000 in
theorem of_bad (m : Int) (s : ByteArray) (w : World) (h : m < 2 ∨ 2147483647 < m) :
    Calls Try.prog 89 #[.int .i64 m, .string s] w fun e w' => e = .returned (.tuple #[.int .i64 0, .int .i64 1]) ∧ w = w' := by
  have H := Lib.hid h
  clear h
  go_enter Try.func89, Try.ntmps89
  go_wp2_with (go_at_call 95; refine (mod_bad _ _ H.out).mono ?_; rintro e w' ⟨rfl, rfl⟩)
  go_ret2
  exact ⟨rfl, rfl⟩

/-- Of, whatever it answers -/
def OfPost (w : World) (e : Ending) (w' : World) : Prop := ∃ V E : Int, e = .returned (.tuple #[.int .i64 V, .int .i64 E]) ∧ Up w w'

theorem of_any (M : Nat) (s : ByteArray) (w : World) (h0 : 2 ≤ M) (h1 : M ≤ 2147483647) :
    Calls Try.prog 89 #[.int .i64 (M : Int), .string s] w (OfPost w) := by
  by_cases h : s.size ≤ 600
  · exact (of_ok M s w h0 h1 h).mono fun e w' ⟨he, hu⟩ => ⟨_, _, he, hu⟩
  · exact (of_long M s w h0 h1 (by omega)).mono fun e w' ⟨he, hu⟩ => ⟨_, _, he, Up.of_eq hu⟩

/-! ytnmdfdkagkpcaaa# Join, Roll -/

/-- is a a rest by m? -/
def isRest (a : Int) (M : Nat) : Prop := 0 ≤ a ∧ a < ((2 ^ M.log2 : Nat) : Int)

theorem pow_log2_le (M : Nat) (h0 : M ≠ 0) (h : M ≤ 2147483647) : 2 ^ M.log2 ≤ 1073741824 := by
  have := (Nat.log2_lt h0).2 (show M < 2 ^ 31 by omega)
  exact Nat.pow_le_pow_right (n := 2) (by omega) (show M.log2 ≤ 30 by omega)

theorem rest_blen (A M : Nat) (h : 2 ≤ M) : A < 2 ^ M.log2 ↔ WoolMath.blen A < WoolMath.blen M := by
  rw [WoolMath.blen_pos M (by omega)]
  constructor
  · intro h1
    have := WoolMath.blen_le A _ h1
    omega
  · intro h1
    exact Nat.lt_of_lt_of_le (WoolMath.lt_blen A) (Nat.pow_le_pow_right (by omega) (by omega))

/-- what Join answers -/
def joinV (M A B N : Nat) : Nat := WoolMath.pmod (WoolMath.mul A (WoolMath.pmod (WoolMath.pw 256 N) M)) M ^^^ B ^^^ WoolMath.pmod (WoolMath.pw 256 N) M

theorem lt63 (a : Nat) (h : a < 1073741824) : a < 9223372036854775808 := by omega

end Go.Proofs.Ytnmdfdkagkpcaaa
