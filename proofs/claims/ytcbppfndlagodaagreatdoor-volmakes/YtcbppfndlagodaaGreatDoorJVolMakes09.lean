/-
  The texts BagSort, VolM, one behind the other; each says below what it holds and on what conditions.
-/
import Derived.Test.YtcbppfndlagodaaGreatDoorJVolMakes08
import Derived.Shelf.SlSortFuncK.WholeK
import Derived.Shelf.GgSortFunc.Tiny
import Derived.Deep.QuietTactic
import Derived.BigQuiet
import Derived.Test.YtcbppfndlagodaaGreatDoorJVolMakes01

/-
  sort.Slice of a row of items by the reference's own closure: a permutation, each item behind the one before or alike. Conditions: the row is known whole; the closure's variable holds the slice.
-/
namespace Go.Proofs.YtcbppfndlagodaaGreatDoor
open Go.RowKit
open Go.Proofs
open WoolBag
open Go.Shelf Go.Lib Go.Sort

noncomputable def siT : TypeInfo := (Tryz.prog.info? 22).get (by kernel_rfl)
noncomputable def siE : TypeInfo := (Tryz.prog.info? 70).get (by kernel_rfl)

theorem siK (n : Nat) (h2 : 2 ≤ n) : Lib.swapperK n siE 25 = 9 := by
  have a : siE.hasPointers = true := by kernel_rfl
  have b : siE.bytes = 40 := by kernel_rfl
  have c : (n == 0) = false := by simp; omega
  have d : (n == 1) = false := by simp; omega
  simp [Lib.swapperK, a, b, c, d]

theorem swo_beh : SWO behB where
  irrefl := fun x => by unfold behB; simp
  trans := fun x y z h1 h2 => by rw [beh_iff] at *; exact h1.trans h2
  ntrans := fun x y z h1 h2 => by
    rw [Bool.eq_false_iff, Ne, beh_iff] at *
    unfold Beh at *
    omega

set_option maxRecDepth 100000 in
set_option maxHeartbeats 2000000 in
theorem lessI (blk c Bs size : Nat) (W : World) (dk : Nat → Itm) (hs : W.cell? ⟨Bs, 0, none⟩ = some (.slice (some ⟨blk, 0, none⟩) size c))
    (hc0 : ∀ t, t < size → W.cell? ⟨blk, t * 4, none⟩ = some (.int .i64 (dk t).s)) (hc1 : ∀ t, t < size → W.cell? ⟨blk, t * 4 + 1, none⟩ = some (.int .i64 (dk t).n)) (i j : Nat) (hi : i < size) (hj : j < size) (_hsz : size < 4611686018427387904) :
    Calls Tryz.prog 95 #[.int .i64 i, .int .i64 j, .pointer (some ⟨Bs, 0, none⟩)] W fun e w' => e = .returned (.bool (behB (dk i) (dk j))) ∧ ∃ q, w' = W.drewN q := by
  have ci := hc0 i hi
  have cj := hc0 j hj
  have di := hc1 i hi
  have dj := hc1 j hj
  have hb : behB (dk i) (dk j) = (decide ((dk i).s < (dk j).s) || ((dk j).s == (dk i).s && decide ((dk i).n < (dk j).n))) := rfl
  obtain ⟨R, hR⟩ : ∃ R, behB (dk i) (dk j) = R := ⟨_, rfl⟩
  rw [hR]
  rw [hb] at hR
  generalize (dk i).s = a at *
  generalize (dk j).s = b at *
  generalize (dk i).n = p at *
  generalize (dk j).n = q at *
  clear hc0 hc1 hb
  by_cases r1 : a < b
  · have t1 : decide (a < b) = true := decide_eq_true r1
    have HV : Hid (R = true) := by show _ = _; rw [← hR, t1]; rfl
    clear hR
    go_enter Tryz.func95, Tryz.ntmps95
    go_wp2_with fail
    go_quiet (fail)
    go_wp2_with fail
    go_ret
    exact ⟨by rw [HV.out]; rfl, nq, rfl⟩
  have t1 : decide (a < b) = false := decide_eq_false r1
  by_cases r2 : a = b
  · have t2 : (a == b) = true := by simpa using r2
    by_cases r3 : p < q
    · have t3 : decide (p < q) = true := decide_eq_true r3
      have HV : Hid (R = true) := by show _ = _; rw [← hR, r2, t3]; simp
      clear hR r2
      go_enter Tryz.func95, Tryz.ntmps95
      go_wp2_with fail
      go_quiet (fail)
      go_wp2_with fail
      go_ret
      exact ⟨by rw [HV.out]; rfl, nq, rfl⟩
    · have t3 : decide (p < q) = false := decide_eq_false r3
      have HV : Hid (R = false) := by show _ = _; rw [← hR, r2, t3]; simp
      clear hR r2
      go_enter Tryz.func95, Tryz.ntmps95
      go_wp2_with fail
      go_quiet (fail)
      go_wp2_with fail
      go_ret
      exact ⟨by rw [HV.out]; rfl, nq, rfl⟩
  · have t2 : (a == b) = false := by simpa using r2
    have t2' : (b == a) = false := by simpa using fun h => r2 h.symm
    have HV : Hid (R = false) := by show _ = _; rw [← hR, t1, t2']; rfl
    clear hR r2 t2'
    go_enter Tryz.func95, Tryz.ntmps95
    go_wp2_with fail
    go_quiet (fail)
    go_wp2_with fail
    go_ret
    exact ⟨by rw [HV.out]; rfl, nq, rfl⟩

theorem flat_itL (d : List Itm) : (flatK itC 4 d.toArray).toList = itL d := by
  apply List.ext_getElem
  · rw [Array.length_toList, size_flatK, itL_length]; simp
  · intro t h1 h2
    rw [itL_length] at h2
    have ht : t < d.toArray.size * 4 := by simpa using h2
    have e := get_flatK itC 4 d.toArray t ht
    have e1 : (flatK itC 4 d.toArray).toList[t] = (flatK itC 4 d.toArray)[t]! := by
      rw [Array.length_toList] at h1
      rw [getElem!_pos _ t h1]; rfl
    rw [e1, e]
    have hd : t / 4 < d.length := by omega
    have e2 : d.toArray[t / 4]! = d[t / 4] := by rw [getElem!_pos d.toArray (t / 4) (by simpa using hd)]; simp
    rw [e2]
    obtain ⟨b1, b2, b3, b4⟩ := itL_get d (t / 4) hd
    have hm : t % 4 < 4 := Nat.mod_lt _ (by omega)
    have hg : (itL d)[t]? = some ((itC d[t / 4])[t % 4]!) := by
      rcases Nat.lt_or_ge (t % 4) 1 with m0 | m0
      · rw [show t % 4 = 0 by omega]; rw [show t / 4 * 4 = t by omega] at b1; exact b1
      rcases Nat.lt_or_ge (t % 4) 2 with m1 | m1
      · rw [show t % 4 = 1 by omega]; rw [show t / 4 * 4 + 1 = t by omega] at b2; exact b2
      rcases Nat.lt_or_ge (t % 4) 3 with m2 | m2
      · rw [show t % 4 = 2 by omega]; rw [show t / 4 * 4 + 2 = t by omega] at b3; exact b3
      · rw [show t % 4 = 3 by omega]; rw [show t / 4 * 4 + 3 = t by omega] at b4; exact b4
    rw [List.getElem?_eq_getElem (by rw [itL_length]; exact h2)] at hg
    exact (Option.some.inj hg).symm

theorem holds_row {w : World} {blk : Nat} {d : List Itm} {sp : List Value} (h : RowI w blk (itL d ++ sp)) : HoldsK itC 4 w blk 0 d.toArray := by
  intro t ht
  rw [size_flatK] at ht
  have ht' : t < d.length * 4 := by simpa using ht
  rw [Nat.zero_add]
  refine ⟨h.cell ?_, h.frozen t⟩
  have e : (flatK itC 4 d.toArray)[t]! = (itL d)[t]'(by rw [itL_length]; exact ht') := by
    have h1 : (flatK itC 4 d.toArray).toList[t]'(by rw [flat_itL, itL_length]; exact ht') = (itL d)[t]'(by rw [itL_length]; exact ht') := by simp only [flat_itL]
    rw [← h1, getElem!_pos _ t (by rw [size_flatK]; exact ht)]; rfl
  rw [List.getElem?_append_left (by rw [itL_length]; exact ht'), e]
  exact List.getElem?_eq_getElem _

/-- what sort.Slice leaves -/
def SortPost (blk c : Nat) (d : List Itm) (w : World) (e : Ending) (w' : World) : Prop :=
  e = .returned (.tuple #[]) ∧ ∃ d' : List Itm, d'.Perm d ∧ d'.Pairwise (fun a b => behB b a = false) ∧ Items w' (.slice (some ⟨blk, 0, none⟩) d.length c) d' ∧ w.grownBy w' (some blk)

theorem grown_grow (w : World) (os : Array Obj) (row : Option Nat) : w.grownBy (Go.Sort.grow w os) row :=
  ⟨rfl, rfl, rfl, by rw [size_grow]; omega, fun k hk _ => heap_grow_old w os hk⟩

theorem grown_put (w : World) (n blk off : Nat) (d : Array Itm) : w.grownBy (putRowK itC 4 (Sort.ahead w n) blk off d) (some blk) := by
  refine ⟨rfl, rfl, rfl, by unfold putRowK; rw [size_putRow]; exact Nat.le_refl _, fun k hk hne => ?_⟩
  have hkb : blk ≠ k := fun e => hne (by rw [e])
  unfold putRowK putRow mapBlock
  simp [Array.getElem?_modify, hkb, Sort.ahead]

set_option maxHeartbeats 4000000 in
theorem sortI (blk c Bs : Nat) (d : List Itm) (sp : List Value) (w : World) (hrow : RowI w blk (itL d ++ sp)) (hs : w.cell? ⟨Bs, 0, none⟩ = some (.slice (some ⟨blk, 0, none⟩) d.length c)) (hne : Bs ≠ blk) (hd : d.length ≤ 100) (h1 : 1 ≤ d.length) (hc : d.length ≤ c) (hcm : c ≤ maxLen) :
    Calls Tryz.prog 62 #[.iface 22 (.slice (some ⟨blk, 0, none⟩) d.length c), .func (.func 95) #[] #[.pointer (some ⟨Bs, 0, none⟩)]] w (SortPost blk c d w) := by
  have hBs : Bs < w.heap.size := World.block_lt_of_cell? w _ hs
  by_cases h2 : d.length = 1
  · have ht := Any.sort_Slice_tiny Tryz.laysGg6 22 70 siT siE (by kernel_rfl) (by kernel_rfl) (by kernel_rfl) (by kernel_rfl) 25 (fun _ => by kernel_rfl) (some ⟨blk, 0, none⟩) d.length c (by omega) 114
      (by rw [h2]; kernel_rfl) (.func 95) #[] #[.pointer (some ⟨Bs, 0, none⟩)] w
    change Calls Tryz.prog 62 _ _ _ at ht
    refine ht.mono ?_
    rintro e w' ⟨rfl, os, rfl⟩
    have hg := grown_grow w os (some blk)
    refine ⟨rfl, d, List.Perm.refl _, ?_, ?_, hg⟩
    · exact List.pairwise_iff_getElem.2 (fun i j hi hj hij => by omega)
    · refine ⟨_, c, rfl, hc, hcm, .inr ⟨blk, 0, rfl, fun k hk => ?_⟩⟩
      obtain ⟨b1, b2, b3, b4⟩ := itL_get d k hk
      have hcell : ∀ j v, (itL d)[j]? = some v → (Go.Sort.grow w os).cell? ⟨blk, 0 + j, none⟩ = some v := fun j v hv => by
        rw [Nat.zero_add, cell?_grow _ _ _ hrow.lt]
        exact hrow.cell (get_app hv)
      exact ⟨hcell _ _ b1, hcell _ _ b2, hcell _ _ b3, hcell _ _ b4⟩
  · have hH := holds_row hrow
    have hb := hrow.lt
    have hless : LessReadsK Tryz.prog 95 #[.pointer (some ⟨Bs, 0, none⟩)] itC 4 behB blk 0 d.toArray.size w := by
      intro m os dk hsz i j hi hj
      have e : sortWorldK itC 4 w blk 0 m dk os = putRowK itC 4 (Go.Sort.grow (Sort.ahead w m) os) blk 0 dk := by
        unfold sortWorldK; rw [putRowK_grow _ _ (Sort.ahead w m) _ blk 0 _ hb]
      have hHg : HoldsK itC 4 (Go.Sort.grow (Sort.ahead w m) os) blk 0 d.toArray := holdsK_grow _ _ _ _ blk 0 _ hb (holdsK_ahead _ _ _ _ _ _ _ hH)
      have hcc := holdsK_putRowK _ _ _ blk 0 d.toArray dk hHg hsz
      refine lessI blk c Bs d.toArray.size _ (fun t => dk[t]!) ?_ (fun t ht => ?_) (fun t ht => ?_) i j hi hj (by simp; omega)
      · rw [e, cell?_putRowK_other _ _ _ blk 0 dk _ hne, cell?_grow _ _ _ hBs]
        rw [List.size_toArray]
        exact hs
      · rw [e]
        have := (hcc.cell (i := t) (c := 0) (by omega) (by omega)).1
        rw [Nat.zero_add, Nat.add_zero] at this
        exact this
      · rw [e]
        have := (hcc.cell (i := t) (c := 1) (by omega) (by omega)).1
        rw [Nat.zero_add] at this
        exact this
    have hS := Any.sort_Slice_cells_sorted Tryz.laysGg6 22 70 siT siE (by kernel_rfl) (by kernel_rfl) (by kernel_rfl) (by kernel_rfl) 25 (fun _ => by kernel_rfl) itC 4 (fun _ => rfl) (by kernel_rfl) (fun _ => by kernel_rfl)
      (fun x v hv => by unfold itC at hv; simp at hv; rcases hv with rfl | rfl | rfl | rfl <;> rfl) behB swo_beh 95 #[.pointer (some ⟨Bs, 0, none⟩)]
      (enters_of Tryz.func95 (by kernel_rfl) rfl) blk 0 c d.toArray (by simp; omega) (by simp; omega) 121 (by rw [siK _ (by simp; omega)]; kernel_rfl) false
      (fun args W => run_callFunc_extern Tryz.func121 (by kernel_rfl) (by kernel_rfl) (by kernel_rfl) (e := Extern.ReflectliteSwapper.swap false) (by kernel_rfl) args W) w hless hH hb
    change Calls Tryz.prog 62 _ _ _ at hS
    rw [List.size_toArray] at hS
    refine hS.mono ?_
    rintro e w' ⟨rfl, d', n, os, hP, hSo, rfl⟩
    obtain ⟨hsz, _, hperm⟩ := hP
    have hsz' : d'.size = d.length := by simpa using hsz
    have hsl : d'.toList.length = d.length := by rw [Array.length_toList]; exact hsz'
    refine ⟨rfl, d'.toList, ?_, ?_, ?_, ?_⟩
    · have e1 : (d'.extract 0 d.length).toList = d'.toList := by rw [← hsz', Array.extract_size]
      have e2 : (d.toArray.extract 0 d.length).toList = d := by
        have : d.length = d.toArray.size := by simp
        rw [this, Array.extract_size]
      rw [e1, e2] at hperm
      exact hperm
    · rw [List.pairwise_iff_getElem]
      intro i j hi hj hij
      have := hSo i j (Nat.zero_le _) hij (by rw [← hsl]; exact hj)
      rw [getElem!_pos d' j (by rw [hsz']; rw [hsl] at hj; exact hj), getElem!_pos d' i (by rw [hsz']; rw [hsl] at hi; exact hi)] at this
      exact this
    · refine ⟨_, c, by rw [hsl], by rw [hsl]; exact hc, hcm, .inr ⟨blk, 0, rfl, fun k hk => ?_⟩⟩
      rw [hsl] at hk
      have hbp : blk < (putRowK itC 4 (Sort.ahead w n) blk 0 d').heap.size := by unfold putRowK; rw [size_putRow]; exact hb
      have hcc := holdsK_putRowK itC 4 (Sort.ahead w n) blk 0 d.toArray d' (holdsK_ahead _ _ _ _ _ _ _ hH) hsz
      have hget : d'[k]! = d'.toList[k]'(by rw [hsl]; exact hk) := by rw [getElem!_pos d' k (by rw [hsz']; exact hk)]; rfl
      have hcell : ∀ q v, q < 4 → (itC d'[k]!)[q]! = v → (Go.Sort.grow (putRowK itC 4 (Sort.ahead w n) blk 0 d') os).cell? ⟨blk, 0 + k * 4 + q, none⟩ = some v := fun q v hq hv => by
        rw [cell?_grow _ _ _ hbp, ← hv]
        exact (hcc.cell (i := k) (c := q) (by rw [hsz']; exact hk) hq).1
      rw [← hget]
      exact ⟨hcell 0 _ (by omega) rfl, hcell 1 _ (by omega) rfl, hcell 2 _ (by omega) rfl, hcell 3 _ (by omega) rfl⟩
    · have h1 := grown_put w n blk 0 d'
      have h2 := grown_grow (putRowK itC 4 (Sort.ahead w n) blk 0 d') os (some blk)
      exact ⟨h1.os, h1.tape, h1.output, Nat.le_trans h1.size h2.size, fun k hk hne => (h2.block k (Nat.lt_of_lt_of_le hk h1.size) hne).trans (h1.block k hk hne)⟩

end Go.Proofs.YtcbppfndlagodaaGreatDoor

/-
  Volumes in plain words: what Name, Check, Blocks, Make, Drop, Read, Trim, Write and Clone of package vol make of a bag and a list of volumes, by whatever fingerprint. Conditions: as each says.
-/
namespace WoolVol
open WoolBag

abbrev Idn := Bool × Int × Int

/-- a volume: its name, its blocks -/
structure Vo where
  nm : List UInt8
  bl : List Idn

instance : Inhabited Vo := ⟨⟨[], []⟩⟩

/-- a state: a bag and volumes -/
structure Sta where
  b : List Itm
  v : List Vo

def zeroS : Sta := ⟨[], []⟩

def nbB (c : UInt8) : Bool := (decide (97 ≤ c.toNat) && decide (c.toNat ≤ 122)) || (decide (48 ≤ c.toNat) && decide (c.toNat ≤ 57))
def nameB (s : List UInt8) : Bool := decide (1 ≤ s.length) && decide (s.length ≤ 12) && s.all nbB

/-- the order of names, byte by byte -/
def slt : List UInt8 → List UInt8 → Bool
  | _, [] => false
  | [], _ :: _ => true
  | a :: x, b :: y => decide (a < b) || (a == b && slt x y)

def sle (a b : List UInt8) : Bool := slt a b || a == b

/-- what is wrong with a block's identifier -/
def errB (l : List Itm) (i : Idn) : Int :=
  if !i.1 && !(i == noId) then 3 else if i.1 && !(l.any (idB i)) then 4 else 0

def chkB (l : List Itm) : List Idn → Int
  | [] => 0
  | i :: r => if errB l i = 0 then chkB l r else errB l i

def chkV (l : List Itm) (before : List UInt8) (v : Vo) : Int :=
  if !(nameB v.nm) || sle v.nm before then 3 else if 32 < v.bl.length then 2 else chkB l v.bl

def chkVs (l : List Itm) (before : List UInt8) : List Vo → Int
  | [] => 0
  | v :: r => if chkV l before v = 0 then chkVs l v.nm r else chkV l before v

/-- how often an identifier stands in a list -/
def cnt (l : List Idn) (i : Idn) : Int := ((l.filter (fun j => j == i)).length : Int)

def ids (vs : List Vo) : List Idn := (vs.map (·.bl)).flatten

def refsB (l : List Itm) (all : List Idn) : Bool := l.all (fun x => x.r == cnt all (idOf x))

variable (F : List UInt8 → Int)

def chkS (st : Sta) : Int :=
  if chk F st.b ≠ 0 then chk F st.b
  else if 6 < st.v.length then 2
  else if chkVs st.b [] st.v ≠ 0 then chkVs st.b [] st.v
  else if refsB st.b (ids st.v) then 0 else 11

/-- the first place at which p holds -/
def vix (p : Vo → Bool) : List Vo → Option Nat
  | [] => none
  | x :: r => if p x = true then some 0 else (vix p r).map (· + 1)

def nmB (s : List UInt8) (v : Vo) : Bool := v.nm == s
def gtB (s : List UInt8) (v : Vo) : Bool := !(sle v.nm s)

def vfind (st : Sta) (s : List UInt8) : Nat × Int :=
  if chkS F st ≠ 0 then (0, chkS F st)
  else match vix (nmB s) st.v with
    | some k => (k, 0)
    | none => (0, 4)

def vloc (st : Sta) (s : List UInt8) (a : Int) : Nat × Int :=
  if (vfind F st s).2 ≠ 0 then (0, (vfind F st s).2)
  else if a < 0 ∨ ((st.v[(vfind F st s).1]!).bl.length : Int) ≤ a then (0, 1)
  else ((vfind F st s).1, 0)

def blocks (st : Sta) (s : List UInt8) : List Idn × Int :=
  if (vfind F st s).2 ≠ 0 then ([], (vfind F st s).2) else ((st.v[(vfind F st s).1]!).bl, 0)

/-- block a of volume i -/
def blk (st : Sta) (i : Nat) (a : Nat) : Idn := (st.v[i]!).bl[a]!

def read (st : Sta) (s : List UInt8) (a : Int) : List UInt8 × Int :=
  if (vloc F st s a).2 ≠ 0 then ([], (vloc F st s a).2)
  else if (blk st (vloc F st s a).1 a.toNat).1 then get F st.b (blk st (vloc F st s a).1 a.toNat) else ([], 0)

/-- why no volume of a name can be added -/
def newE (st : Sta) (s : List UInt8) : Int :=
  if !(nameB s) then 3 else if st.v.any (nmB s) then 5 else if st.v.length = 6 then 8 else 0

def vplace (s : List UInt8) (l : List Vo) : Nat := (vix (gtB s) l).getD l.length
def vins (x : Vo) (l : List Vo) : List Vo := l.take (vplace x.nm l) ++ x :: l.drop (vplace x.nm l)

def make (st : Sta) (s : List UInt8) (n : Int) : Sta × Int :=
  if chkS F st ≠ 0 then (zeroS, chkS F st)
  else if n < 1 ∨ 32 < n then (zeroS, 1)
  else if newE st s ≠ 0 then (zeroS, newE st s)
  else (⟨st.b, vins ⟨s, List.replicate n.toNat noId⟩ st.v⟩, 0)

/-- a reference taken from each -/
def rel (l : List Itm) : List Idn → List Itm
  | [] => l
  | i :: r => rel (if i.1 then (drop F l i).1 else l) r

def vdrop (st : Sta) (s : List UInt8) : Sta × Int :=
  if (vfind F st s).2 ≠ 0 then (zeroS, (vfind F st s).2)
  else (⟨rel F st.b (st.v[(vfind F st s).1]!).bl, st.v.eraseIdx (vfind F st s).1⟩, 0)

/-- an identifier laid at a place of a volume -/
def setB (l : List Vo) (i a : Nat) (x : Idn) : List Vo := l.set i ⟨(l[i]!).nm, (l[i]!).bl.set a x⟩

def trim (st : Sta) (s : List UInt8) (a : Int) : Sta × Int :=
  if (vloc F st s a).2 ≠ 0 then (zeroS, (vloc F st s a).2)
  else (⟨rel F st.b [blk st (vloc F st s a).1 a.toNat], setB st.v (vloc F st s a).1 a.toNat noId⟩, 0)

def write (st : Sta) (s : List UInt8) (a : Int) (t : List UInt8) : Sta × Int :=
  if (trim F st s a).2 ≠ 0 then (zeroS, (trim F st s a).2)
  else if (put F (trim F st s a).1.b t).2.2 ≠ 0 then (zeroS, (put F (trim F st s a).1.b t).2.2)
  else (⟨(put F (trim F st s a).1.b t).1, setB (trim F st s a).1.v (vloc F st s a).1 a.toNat (put F (trim F st s a).1.b t).2.1⟩, 0)

def ret (l : List Itm) (bl : List Idn) : List Itm := l.map (fun x => more x (cnt bl (idOf x)))

def clone (st : Sta) (s t : List UInt8) : Sta × Int :=
  if (vfind F st s).2 ≠ 0 then (zeroS, (vfind F st s).2)
  else if newE st t ≠ 0 then (zeroS, newE st t)
  else (⟨ret st.b (st.v[(vfind F st s).1]!).bl, vins ⟨t, (st.v[(vfind F st s).1]!).bl⟩ st.v⟩, 0)

theorem vix_some {p : Vo → Bool} : ∀ {l : List Vo} {i : Nat}, vix p l = some i → ∃ h : i < l.length, p l[i] = true ∧ ∀ j (hj : j < i), p (l[j]'(by omega)) = false
  | [], i, h => by simp [vix] at h
  | x :: r, i, h => by
    unfold vix at h
    by_cases hx : p x = true
    · rw [if_pos hx] at h
      cases h
      exact ⟨by simp, hx, fun j hj => absurd hj (by omega)⟩
    · rw [if_neg hx] at h
      cases hr : vix p r with
      | none => rw [hr] at h; simp at h
      | some k =>
        rw [hr] at h
        simp at h
        subst h
        obtain ⟨h1, h2, h3⟩ := vix_some hr
        refine ⟨by simp; omega, by simpa using h2, fun j hj => ?_⟩
        cases j with
        | zero => simpa using hx
        | succ m => simpa using h3 m (by omega)

theorem vix_none {p : Vo → Bool} : ∀ {l : List Vo}, vix p l = none ↔ ∀ x ∈ l, p x = false
  | [] => by simp [vix]
  | x :: r => by
    unfold vix
    by_cases hx : p x = true
    · rw [if_pos hx]; simp [hx]
    · rw [if_neg hx]
      simp only [Option.map_eq_none_iff, List.mem_cons, forall_eq_or_imp]
      rw [vix_none]
      simp [hx]

theorem vix_of {p : Vo → Bool} {l : List Vo} {i : Nat} (h : i < l.length) (h1 : p l[i] = true) (h2 : ∀ j (hj : j < i), p (l[j]'(by omega)) = false) : vix p l = some i := by
  cases hv : vix p l with
  | none => rw [vix_none] at hv; rw [hv _ (List.getElem_mem h)] at h1; cases h1
  | some k =>
    obtain ⟨k1, k2, k3⟩ := vix_some hv
    rcases Nat.lt_trichotomy i k with hk | hk | hk
    · rw [k3 i hk] at h1; cases h1
    · rw [hk]
    · rw [h2 k hk] at k2; cases k2

theorem vix_any {p : Vo → Bool} {l : List Vo} : l.any p = (vix p l).isSome := by
  cases hv : vix p l with
  | none => rw [vix_none] at hv; simpa using hv
  | some k => obtain ⟨k1, k2, _⟩ := vix_some hv; simp only [Option.isSome_some, List.any_eq_true]; exact ⟨_, List.getElem_mem k1, k2⟩

theorem slt_irrefl : ∀ a : List UInt8, slt a a = false
  | [] => rfl
  | x :: r => by unfold slt; simp [slt_irrefl r]

theorem slt_trans : ∀ {a b c : List UInt8}, slt a b = true → slt b c = true → slt a c = true
  | _, [], _, h, _ => by simp [slt] at h
  | _, _ :: _, [], _, h => by simp [slt] at h
  | [], _ :: _, _ :: _, _, _ => rfl
  | x :: a, y :: b, z :: c, h, k => by
    unfold slt at h k ⊢
    simp only [Bool.or_eq_true, decide_eq_true_eq, Bool.and_eq_true, beq_iff_eq] at h k ⊢
    rcases h with h | ⟨rfl, h⟩
    · rcases k with k | ⟨rfl, k⟩
      · exact .inl (UInt8.lt_trans h k)
      · exact .inl h
    · rcases k with k | ⟨rfl, k⟩
      · exact .inl k
      · exact .inr ⟨rfl, slt_trans h k⟩

theorem slt_total : ∀ a b : List UInt8, slt a b = true ∨ a = b ∨ slt b a = true
  | [], [] => .inr (.inl rfl)
  | [], _ :: _ => .inl rfl
  | _ :: _, [] => .inr (.inr rfl)
  | x :: a, y :: b => by
    unfold slt
    simp only [Bool.or_eq_true, decide_eq_true_eq, Bool.and_eq_true, beq_iff_eq]
    rcases UInt8.lt_or_lt_of_ne (a := x) (b := y) |> fun h => (Classical.em (x = y)).symm.imp h id with h | rfl
    · rcases h with h | h
      · exact .inl (.inl h)
      · exact .inr (.inr (.inl h))
    · rcases slt_total a b with h | rfl | h
      · exact .inl (.inr ⟨rfl, h⟩)
      · exact .inr (.inl rfl)
      · exact .inr (.inr (.inr ⟨rfl, h⟩))

theorem sle_iff (a b : List UInt8) : sle a b = true ↔ slt a b = true ∨ a = b := by unfold sle; simp

theorem sle_not (a b : List UInt8) : (!(sle a b)) = slt b a := by
  rcases slt_total a b with h | h | h
  · have h2 : slt b a = false := by
      cases hb : slt b a with
      | false => rfl
      | true => have := slt_trans h hb; rw [slt_irrefl] at this; cases this
    rw [h2]; unfold sle; simp [h]
  · subst h; rw [slt_irrefl]; unfold sle; simp
  · rw [h]
    unfold sle
    have h1 : slt a b = false := by
      cases hb : slt a b with
      | false => rfl
      | true => have := slt_trans h hb; rw [slt_irrefl] at this; cases this
    have h2 : (a == b) = false := by
      cases hb : a == b with
      | false => rfl
      | true => rw [beq_iff_eq] at hb; subst hb; rw [slt_irrefl] at h; cases h
    simp [h1, h2]

theorem cnt_nil (i : Idn) : cnt [] i = 0 := rfl
theorem cnt_append (a b : List Idn) (i : Idn) : cnt (a ++ b) i = cnt a i + cnt b i := by unfold cnt; rw [List.filter_append, List.length_append]; omega
theorem cnt_snoc (a : List Idn) (j i : Idn) : cnt (a ++ [j]) i = cnt a i + (if j = i then 1 else 0) := by
  rw [cnt_append]; unfold cnt; by_cases h : j = i <;> simp [h]
theorem cnt_nonneg (a : List Idn) (i : Idn) : 0 ≤ cnt a i := by unfold cnt; omega
theorem cnt_le (a : List Idn) (i : Idn) : cnt a i ≤ a.length := by unfold cnt; have := List.length_filter_le (fun j => j == i) a; omega

theorem chkB_zero {l : List Itm} : ∀ {bl : List Idn}, chkB l bl = 0 ↔ ∀ i ∈ bl, errB l i = 0
  | [] => by simp [chkB]
  | i :: r => by
    unfold chkB
    by_cases h : errB l i = 0
    · rw [if_pos h, chkB_zero]; simp [h]
    · rw [if_neg h]; simp [h]

theorem chkB_step {l : List Itm} : ∀ {bl : List Idn} {k : Nat} (_ : ∀ i ∈ bl.take k, errB l i = 0), chkB l bl = chkB l (bl.drop k)
  | _, 0, _ => by simp
  | [], k + 1, _ => by simp
  | i :: r, k + 1, h => by
    have h1 : errB l i = 0 := h i (by simp)
    rw [List.drop_succ_cons]
    rw [← chkB_step (bl := r) (k := k) (fun j hj => h j (by simp [hj]))]
    show (if errB l i = 0 then chkB l r else errB l i) = _
    rw [if_pos h1]

theorem errB_range (l : List Itm) (i : Idn) : errB l i = 0 ∨ errB l i = 3 ∨ errB l i = 4 := by
  unfold errB
  split
  · exact .inr (.inl rfl)
  · split
    · exact .inr (.inr rfl)
    · exact .inl rfl

end WoolVol
