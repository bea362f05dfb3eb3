/-
  The texts BagM, VolM, one behind the other; each says below what it holds and on what conditions.
-/
import Init

/-
  Bags as lists, in plain words: what Check, Put, Get and Drop of package bag make of a list of items, by whatever fingerprint. Conditions: as each says.
-/
namespace WoolBag

/-- an item: its sum, its number, its block, its references -/
structure Itm where
  s : Int
  n : Int
  t : List UInt8
  r : Int

instance : Inhabited Itm := ⟨⟨0, 0, [], 0⟩⟩

theorem Itm.ext' {a b : Itm} (h1 : a.s = b.s) (h2 : a.n = b.n) (h3 : a.t = b.t) (h4 : a.r = b.r) : a = b := by
  cases a; cases b; simp_all

/-- x stands behind a -/
def behB (a x : Itm) : Bool := decide (a.s < x.s) || (x.s == a.s && decide (a.n < x.n))

def Beh (a x : Itm) : Prop := a.s < x.s ∨ (x.s = a.s ∧ a.n < x.n)
theorem beh_iff (a x : Itm) : behB a x = true ↔ Beh a x := by
  unfold behB Beh; simp

/-- the item's own bounds -/
def argB (x : Itm) : Bool := decide (x.n < 0) || decide (63 < x.n) || decide (x.r < 1) || decide (1000000 < x.r)

def lastB (before : List Itm) (x : Itm) : Bool :=
  match before.getLast? with
  | none => true
  | some a => behB a x

def txtB (t : List UInt8) (y : Itm) : Bool := y.t == t
def idB (i : Bool × Int × Int) (y : Itm) : Bool := i.1 && (y.s == i.2.1) && (y.n == i.2.2)

variable (F : List UInt8 → Int)

/-- what is wrong with x behind the items before it -/
def errI (before : List Itm) (x : Itm) : Int :=
  if 64 < x.t.length then 2
  else if x.s ≠ F x.t then 6
  else if argB x = true then 1
  else if lastB before x = false then 3
  else if before.any (txtB x.t) = true then 5
  else 0

def chkL (before : List Itm) : List Itm → Int
  | [] => 0
  | x :: r => if errI F before x = 0 then chkL (before ++ [x]) r else errI F before x

def chk (l : List Itm) : Int := if 64 < l.length then 2 else chkL F [] l

/-- the first place at which p holds -/
def idx (p : Itm → Bool) : List Itm → Option Nat
  | [] => none
  | x :: r => if p x = true then some 0 else (idx p r).map (· + 1)

theorem idx_some {p : Itm → Bool} : ∀ {l : List Itm} {i : Nat}, idx p l = some i → ∃ h : i < l.length, p l[i] = true ∧ ∀ j (hj : j < i), p (l[j]'(by omega)) = false
  | [], i, h => by simp [idx] at h
  | x :: r, i, h => by
    unfold idx at h
    by_cases hx : p x = true
    · rw [if_pos hx] at h
      cases h
      exact ⟨by simp, hx, fun j hj => by omega⟩
    · rw [if_neg hx] at h
      obtain ⟨k, hk, rfl⟩ := Option.map_eq_some_iff.1 h
      obtain ⟨h1, h2, h3⟩ := idx_some hk
      refine ⟨by simp; omega, by simpa using h2, fun j hj => ?_⟩
      cases j with
      | zero => simpa using hx
      | succ j => simpa using h3 j (by omega)

theorem idx_none {p : Itm → Bool} : ∀ {l : List Itm}, idx p l = none ↔ ∀ x ∈ l, p x = false
  | [] => by simp [idx]
  | x :: r => by
    unfold idx
    by_cases hx : p x = true
    · rw [if_pos hx]; simp [hx]
    · rw [if_neg hx]
      simp only [Option.map_eq_none_iff, List.mem_cons, forall_eq_or_imp]
      rw [idx_none (l := r)]
      simp [hx]

theorem idx_of {p : Itm → Bool} : ∀ {l : List Itm} {i : Nat} (h : i < l.length), p l[i] = true → (∀ j (hj : j < i), p (l[j]'(by omega)) = false) → idx p l = some i
  | [], i, h, _, _ => by simp at h
  | x :: r, 0, h, h1, _ => by unfold idx; rw [if_pos (by simpa using h1)]
  | x :: r, i + 1, h, h1, h2 => by
    unfold idx
    have hx : p x = false := by simpa using h2 0 (by omega)
    rw [if_neg (by simp [hx]), idx_of (l := r) (i := i) (by simpa using h) (by simpa using h1) (fun j hj => by simpa using h2 (j + 1) (by omega))]
    rfl

theorem any_iff {p : Itm → Bool} {l : List Itm} : l.any p = true ↔ idx p l ≠ none := by
  rw [Ne, idx_none, List.any_eq_true]
  constructor
  · rintro ⟨x, hx, h⟩ hn; rw [hn x hx] at h; cases h
  · intro h
    by_cases h' : ∃ x ∈ l, p x = true
    · exact h'
    · exact absurd (fun x hx => by simpa using fun hp => h' ⟨x, hx, hp⟩) h

/-- an item that may be in a bag -/
def Ok (x : Itm) : Prop := x.t.length ≤ 64 ∧ x.s = F x.t ∧ 0 ≤ x.n ∧ x.n ≤ 63 ∧ 1 ≤ x.r ∧ x.r ≤ 1000000

/-- a right bag -/
structure Bag (l : List Itm) : Prop where
  len : l.length ≤ 64
  ok : ∀ x ∈ l, Ok F x
  beh : l.Pairwise Beh
  txt : l.Pairwise (fun a b => a.t ≠ b.t)

theorem Beh.trans {a b c : Itm} (h : Beh a b) (k : Beh b c) : Beh a c := by
  unfold Beh at *; omega
theorem Beh.irrefl {a : Itm} (h : Beh a a) : False := by unfold Beh at h; omega
theorem Beh.asymm {a b : Itm} (h : Beh a b) (k : Beh b a) : False := (h.trans k).irrefl

theorem arg_iff (x : Itm) : argB x = false ↔ 0 ≤ x.n ∧ x.n ≤ 63 ∧ 1 ≤ x.r ∧ x.r ≤ 1000000 := by
  unfold argB; simp; omega

theorem errI_zero {before : List Itm} {x : Itm} : errI F before x = 0 ↔ Ok F x ∧ lastB before x = true ∧ ∀ y ∈ before, y.t ≠ x.t := by
  unfold errI Ok
  constructor
  · intro h
    split at h
    · cases h
    split at h
    · cases h
    split at h
    · cases h
    split at h
    · cases h
    split at h
    · cases h
    rename_i h1 h2 h3 h4 h5
    have h3' := (arg_iff x).1 (by simpa using h3)
    refine ⟨⟨by omega, by simpa using h2, h3'.1, h3'.2.1, h3'.2.2.1, h3'.2.2.2⟩, by simpa using h4, fun y hy e => h5 ?_⟩
    rw [List.any_eq_true]
    exact ⟨y, hy, by unfold txtB; simpa using e⟩
  · rintro ⟨⟨a1, a2, a3⟩, b, c⟩
    rw [if_neg (by omega), if_neg (by simpa using a2), if_neg (by rw [(arg_iff x).2 a3]; simp), if_neg (by simp [b]), if_neg ?_]
    rw [List.any_eq_true]
    rintro ⟨y, hy, e⟩
    unfold txtB at e
    exact c y hy (by simpa using e)

theorem chkL_zero : ∀ (r before : List Itm), chkL F before r = 0 ↔ (∀ k (h : k < r.length), errI F (before ++ r.take k) r[k] = 0)
  | [], before => by simp [chkL]
  | x :: r, before => by
    unfold chkL
    by_cases h : errI F before x = 0
    · rw [if_pos h, chkL_zero r (before ++ [x])]
      constructor
      · intro hk k hlt
        cases k with
        | zero => simpa using h
        | succ k => simpa using hk k (by simpa using hlt)
      · intro hk k hlt
        have := hk (k + 1) (by simpa using hlt)
        simpa using this
    · rw [if_neg h]
      constructor
      · intro h'; exact absurd h' h
      · intro hk
        have := hk 0 (by simp)
        simp at this
        exact absurd this h

theorem pairwise_iff_take {R : Itm → Itm → Prop} {l : List Itm} : l.Pairwise R ↔ ∀ k (h : k < l.length), ∀ y ∈ l.take k, R y l[k] := by
  rw [List.pairwise_iff_getElem]
  constructor
  · intro h k hk y hy
    obtain ⟨j, hj, rfl⟩ := List.getElem_of_mem hy
    rw [List.length_take] at hj
    rw [List.getElem_take]
    exact h j k (by omega) hk (by omega)
  · intro h i j hi hj hij
    exact h j hj _ (by rw [List.mem_take_iff_getElem]; exact ⟨i, by omega, rfl⟩)

theorem last_take {l : List Itm} {k : Nat} (h : k + 1 < l.length) (x : Itm) : lastB (l.take (k + 1)) x = behB (l[k]'(by omega)) x := by
  unfold lastB
  rw [List.getLast?_eq_getElem?, List.length_take, Nat.min_eq_left (by omega), Nat.add_sub_cancel, List.getElem?_take_of_lt (by omega), List.getElem?_eq_getElem (by omega)]

theorem beh_of_steps {l : List Itm} (h : ∀ k (hk : k + 1 < l.length), Beh (l[k]'(by omega)) l[k + 1]) : l.Pairwise Beh := by
  rw [List.pairwise_iff_getElem]
  intro i j hi hj hij
  obtain ⟨d, rfl⟩ : ∃ d, j = i + 1 + d := ⟨j - (i + 1), by omega⟩
  induction d with
  | zero => exact h i (by omega)
  | succ d ih => exact (ih (by omega) (by omega)).trans (h (i + 1 + d) (by omega))

theorem chk_zero {l : List Itm} : chk F l = 0 ↔ Bag F l := by
  unfold chk
  constructor
  · intro h
    split at h
    · cases h
    rename_i hl
    rw [chkL_zero] at h
    have h' : ∀ k (hk : k < l.length), Ok F l[k] ∧ lastB (l.take k) l[k] = true ∧ ∀ y ∈ l.take k, y.t ≠ (l[k]).t := fun k hk => (errI_zero F).1 (by simpa using h k hk)
    refine ⟨by omega, fun x hx => ?_, beh_of_steps fun k hk => ?_, pairwise_iff_take.2 fun k hk => (h' k hk).2.2⟩
    · obtain ⟨i, hi, rfl⟩ := List.getElem_of_mem hx
      exact (h' i hi).1
    · rw [← beh_iff, ← last_take hk]
      exact (h' (k + 1) hk).2.1
  · intro h
    rw [if_neg (by have := h.len; omega), chkL_zero]
    intro k hk
    rw [List.nil_append, errI_zero]
    refine ⟨h.ok _ (List.getElem_mem hk), ?_, (pairwise_iff_take.1 h.txt) k hk⟩
    cases k with
    | zero => simp [lastB]
    | succ k =>
      rw [last_take hk, beh_iff]
      exact (List.pairwise_iff_getElem.1 h.beh) k (k + 1) (by omega) hk (by omega)

theorem errI_range (before : List Itm) (x : Itm) : errI F before x = 0 ∨ errI F before x = 2 ∨ errI F before x = 6 ∨ errI F before x = 1 ∨ errI F before x = 3 ∨ errI F before x = 5 := by
  unfold errI
  repeat' split
  all_goals simp

/-! ytnmdfdkagkpcaaa# Put -/

/-- how many have the sum σ and a number from k on -/
def from_ (l : List Itm) (σ : Int) (k : Nat) : Nat := (l.filter fun y => y.s == σ && decide ((k : Int) ≤ y.n)).length

theorem from_lt {l : List Itm} {σ : Int} {k : Nat} (h : l.any (idB (true, σ, (k : Int))) = true) : from_ l σ (k + 1) + 1 ≤ from_ l σ k := by
  unfold from_
  obtain ⟨y, hy, e⟩ := List.any_eq_true.1 h
  unfold idB at e
  simp at e
  induction l with
  | nil => simp at hy
  | cons x r ih =>
    have mono : ∀ r : List Itm, (r.filter fun y => y.s == σ && decide (((k + 1 : Nat) : Int) ≤ y.n)).length ≤ (r.filter fun y => y.s == σ && decide ((k : Int) ≤ y.n)).length := fun r => by
      induction r with
      | nil => simp
      | cons z q iq =>
        rw [List.filter_cons, List.filter_cons]
        by_cases hz : (z.s == σ && decide (((k + 1 : Nat) : Int) ≤ z.n)) = true
        · have hz' : (z.s == σ && decide ((k : Int) ≤ z.n)) = true := by simp at hz ⊢; omega
          rw [if_pos hz, if_pos hz']; simpa using iq
        · rw [if_neg hz]
          split
          · rw [List.length_cons]; omega
          · exact iq
    rw [List.filter_cons, List.filter_cons]
    rcases List.mem_cons.1 hy with rfl | hy
    · rw [if_neg (by simp; omega), if_pos (by simp [e])]
      have := mono r
      rw [List.length_cons]; omega
    · have := ih (by rw [List.any_eq_true]; exact ⟨y, hy, by unfold idB; simp [e]⟩) hy
      by_cases hz : (x.s == σ && decide (((k + 1 : Nat) : Int) ≤ x.n)) = true
      · have hz' : (x.s == σ && decide ((k : Int) ≤ x.n)) = true := by simp at hz ⊢; omega
        rw [if_pos hz, if_pos hz']; simpa using this
      · rw [if_neg hz]
        split
        · rw [List.length_cons]; omega
        · exact this

/-- the smallest number from k on that no item with the sum σ has -/
def nfree (l : List Itm) (σ : Int) (k : Nat) : Nat :=
  if h : l.any (idB (true, σ, (k : Int))) = true then nfree l σ (k + 1) else k
  termination_by from_ l σ k
  decreasing_by have := from_lt h; omega

theorem nfree_step {l : List Itm} {σ : Int} {k : Nat} (h : l.any (idB (true, σ, (k : Int))) = true) : nfree l σ k = nfree l σ (k + 1) := by
  rw [nfree, dif_pos h]
theorem nfree_stop {l : List Itm} {σ : Int} {k : Nat} (h : l.any (idB (true, σ, (k : Int))) = false) : nfree l σ k = k := by
  rw [nfree, dif_neg (by simp [h])]

theorem nfree_spec (l : List Itm) (σ : Int) (k : Nat) : k ≤ nfree l σ k ∧ nfree l σ k ≤ k + from_ l σ k ∧ l.any (idB (true, σ, (nfree l σ k : Int))) = false ∧ ∀ j, k ≤ j → j < nfree l σ k → l.any (idB (true, σ, (j : Int))) = true := by
  by_cases h : l.any (idB (true, σ, (k : Int))) = true
  · have ih := nfree_spec l σ (k + 1)
    have hlt := from_lt h
    rw [nfree_step h]
    refine ⟨by omega, by omega, ih.2.2.1, fun j h1 h2 => ?_⟩
    by_cases e : j = k
    · subst e; exact h
    · exact ih.2.2.2 j (by omega) h2
  · have h' : l.any (idB (true, σ, (k : Int))) = false := by simpa using h
    rw [nfree_stop h']
    exact ⟨Nat.le_refl _, by omega, h', fun j h1 h2 => by omega⟩
  termination_by from_ l σ k
  decreasing_by have := from_lt h; omega

theorem from_le (l : List Itm) (σ : Int) (k : Nat) : from_ l σ k ≤ l.length := List.length_filter_le _ _

/-- where x goes -/
def place (x : Itm) (l : List Itm) : Nat := (idx (behB x) l).getD l.length

def ins (x : Itm) (l : List Itm) : List Itm := l.take (place x l) ++ x :: l.drop (place x l)

def new (l : List Itm) (t : List UInt8) : Itm := ⟨F t, (nfree l (F t) 0 : Int), t, 1⟩

def more (x : Itm) (d : Int) : Itm := ⟨x.s, x.n, x.t, x.r + d⟩

def idOf (x : Itm) : Bool × Int × Int := (true, x.s, x.n)
def noId : Bool × Int × Int := (false, 0, 0)

/-- what Put answers -/
def put (l : List Itm) (t : List UInt8) : List Itm × (Bool × Int × Int) × Int :=
  if chk F l ≠ 0 then ([], noId, chk F l)
  else if 64 < t.length then ([], noId, 2)
  else match idx (txtB t) l with
    | some i => if (l[i]!).r = 1000000 then ([], noId, 8) else (l.set i (more l[i]! 1), idOf l[i]!, 0)
    | none => if l.length = 64 then ([], noId, 8) else (ins (new F l t) l, idOf (new F l t), 0)

/-- what find answers -/
def find (l : List Itm) (i : Bool × Int × Int) : Nat × Int :=
  if chk F l ≠ 0 then (0, chk F l)
  else match idx (idB i) l with
    | some k => (k, 0)
    | none => (0, 4)

def get (l : List Itm) (i : Bool × Int × Int) : List UInt8 × Int :=
  if (find F l i).2 = 0 then ((l[(find F l i).1]!).t, 0) else ([], (find F l i).2)

def less (l : List Itm) (k : Nat) : List Itm :=
  if (l[k]!).r = 1 then l.eraseIdx k else l.set k (more l[k]! (-1))

def drop (l : List Itm) (i : Bool × Int × Int) : List Itm × Int :=
  if (find F l i).2 = 0 then (less l (find F l i).1, 0) else ([], (find F l i).2)

end WoolBag

/-
  Volumes in plain words: what Name, Check, Blocks, Make, Drop, Read, Trim, Write and Clone of package vol make of a bag and a list of volumes, by whatever fingerprint. Conditions: as each says.
-/
namespace WoolVol
open WoolBag

abbrev Idn := Bool × Int × Int

/-- a volume: its name, its blocks -/
structure Vo where
  nm : List UInt8
  bl : List Idn

instance : Inhabited Vo := ⟨⟨[], []⟩⟩

/-- a state: a bag and volumes -/
structure Sta where
  b : List Itm
  v : List Vo

def zeroS : Sta := ⟨[], []⟩

def nbB (c : UInt8) : Bool := (decide (97 ≤ c.toNat) && decide (c.toNat ≤ 122)) || (decide (48 ≤ c.toNat) && decide (c.toNat ≤ 57))
def nameB (s : List UInt8) : Bool := decide (1 ≤ s.length) && decide (s.length ≤ 12) && s.all nbB

/-- the order of names, byte by byte -/
def slt : List UInt8 → List UInt8 → Bool
  | _, [] => false
  | [], _ :: _ => true
  | a :: x, b :: y => decide (a < b) || (a == b && slt x y)

def sle (a b : List UInt8) : Bool := slt a b || a == b

/-- what is wrong with a block's identifier -/
def errB (l : List Itm) (i : Idn) : Int :=
  if !i.1 && !(i == noId) then 3 else if i.1 && !(l.any (idB i)) then 4 else 0

def chkB (l : List Itm) : List Idn → Int
  | [] => 0
  | i :: r => if errB l i = 0 then chkB l r else errB l i

def chkV (l : List Itm) (before : List UInt8) (v : Vo) : Int :=
  if !(nameB v.nm) || sle v.nm before then 3 else if 32 < v.bl.length then 2 else chkB l v.bl

def chkVs (l : List Itm) (before : List UInt8) : List Vo → Int
  | [] => 0
  | v :: r => if chkV l before v = 0 then chkVs l v.nm r else chkV l before v

/-- how often an identifier stands in a list -/
def cnt (l : List Idn) (i : Idn) : Int := ((l.filter (fun j => j == i)).length : Int)

def ids (vs : List Vo) : List Idn := (vs.map (·.bl)).flatten

def refsB (l : List Itm) (all : List Idn) : Bool := l.all (fun x => x.r == cnt all (idOf x))

variable (F : List UInt8 → Int)

def chkS (st : Sta) : Int :=
  if chk F st.b ≠ 0 then chk F st.b
  else if 6 < st.v.length then 2
  else if chkVs st.b [] st.v ≠ 0 then chkVs st.b [] st.v
  else if refsB st.b (ids st.v) then 0 else 11

/-- the first place at which p holds -/
def vix (p : Vo → Bool) : List Vo → Option Nat
  | [] => none
  | x :: r => if p x = true then some 0 else (vix p r).map (· + 1)

def nmB (s : List UInt8) (v : Vo) : Bool := v.nm == s
def gtB (s : List UInt8) (v : Vo) : Bool := !(sle v.nm s)

def vfind (st : Sta) (s : List UInt8) : Nat × Int :=
  if chkS F st ≠ 0 then (0, chkS F st)
  else match vix (nmB s) st.v with
    | some k => (k, 0)
    | none => (0, 4)

def vloc (st : Sta) (s : List UInt8) (a : Int) : Nat × Int :=
  if (vfind F st s).2 ≠ 0 then (0, (vfind F st s).2)
  else if a < 0 ∨ ((st.v[(vfind F st s).1]!).bl.length : Int) ≤ a then (0, 1)
  else ((vfind F st s).1, 0)

def blocks (st : Sta) (s : List UInt8) : List Idn × Int :=
  if (vfind F st s).2 ≠ 0 then ([], (vfind F st s).2) else ((st.v[(vfind F st s).1]!).bl, 0)

/-- block a of volume i -/
def blk (st : Sta) (i : Nat) (a : Nat) : Idn := (st.v[i]!).bl[a]!

def read (st : Sta) (s : List UInt8) (a : Int) : List UInt8 × Int :=
  if (vloc F st s a).2 ≠ 0 then ([], (vloc F st s a).2)
  else if (blk st (vloc F st s a).1 a.toNat).1 then get F st.b (blk st (vloc F st s a).1 a.toNat) else ([], 0)

/-- why no volume of a name can be added -/
def newE (st : Sta) (s : List UInt8) : Int :=
  if !(nameB s) then 3 else if st.v.any (nmB s) then 5 else if st.v.length = 6 then 8 else 0

def vplace (s : List UInt8) (l : List Vo) : Nat := (vix (gtB s) l).getD l.length
def vins (x : Vo) (l : List Vo) : List Vo := l.take (vplace x.nm l) ++ x :: l.drop (vplace x.nm l)

def make (st : Sta) (s : List UInt8) (n : Int) : Sta × Int :=
  if chkS F st ≠ 0 then (zeroS, chkS F st)
  else if n < 1 ∨ 32 < n then (zeroS, 1)
  else if newE st s ≠ 0 then (zeroS, newE st s)
  else (⟨st.b, vins ⟨s, List.replicate n.toNat noId⟩ st.v⟩, 0)

/-- a reference taken from each -/
def rel (l : List Itm) : List Idn → List Itm
  | [] => l
  | i :: r => rel (if i.1 then (drop F l i).1 else l) r

def vdrop (st : Sta) (s : List UInt8) : Sta × Int :=
  if (vfind F st s).2 ≠ 0 then (zeroS, (vfind F st s).2)
  else (⟨rel F st.b (st.v[(vfind F st s).1]!).bl, st.v.eraseIdx (vfind F st s).1⟩, 0)

/-- an identifier laid at a place of a volume -/
def setB (l : List Vo) (i a : Nat) (x : Idn) : List Vo := l.set i ⟨(l[i]!).nm, (l[i]!).bl.set a x⟩

def trim (st : Sta) (s : List UInt8) (a : Int) : Sta × Int :=
  if (vloc F st s a).2 ≠ 0 then (zeroS, (vloc F st s a).2)
  else (⟨rel F st.b [blk st (vloc F st s a).1 a.toNat], setB st.v (vloc F st s a).1 a.toNat noId⟩, 0)

def write (st : Sta) (s : List UInt8) (a : Int) (t : List UInt8) : Sta × Int :=
  if (trim F st s a).2 ≠ 0 then (zeroS, (trim F st s a).2)
  else if (put F (trim F st s a).1.b t).2.2 ≠ 0 then (zeroS, (put F (trim F st s a).1.b t).2.2)
  else (⟨(put F (trim F st s a).1.b t).1, setB (trim F st s a).1.v (vloc F st s a).1 a.toNat (put F (trim F st s a).1.b t).2.1⟩, 0)

def ret (l : List Itm) (bl : List Idn) : List Itm := l.map (fun x => more x (cnt bl (idOf x)))

def clone (st : Sta) (s t : List UInt8) : Sta × Int :=
  if (vfind F st s).2 ≠ 0 then (zeroS, (vfind F st s).2)
  else if newE st t ≠ 0 then (zeroS, newE st t)
  else (⟨ret st.b (st.v[(vfind F st s).1]!).bl, vins ⟨t, (st.v[(vfind F st s).1]!).bl⟩ st.v⟩, 0)

theorem vix_some {p : Vo → Bool} : ∀ {l : List Vo} {i : Nat}, vix p l = some i → ∃ h : i < l.length, p l[i] = true ∧ ∀ j (hj : j < i), p (l[j]'(by omega)) = false
  | [], i, h => by simp [vix] at h
  | x :: r, i, h => by
    unfold vix at h
    by_cases hx : p x = true
    · rw [if_pos hx] at h
      cases h
      exact ⟨by simp, hx, fun j hj => absurd hj (by omega)⟩
    · rw [if_neg hx] at h
      cases hr : vix p r with
      | none => rw [hr] at h; simp at h
      | some k =>
        rw [hr] at h
        simp at h
        subst h
        obtain ⟨h1, h2, h3⟩ := vix_some hr
        refine ⟨by simp; omega, by simpa using h2, fun j hj => ?_⟩
        cases j with
        | zero => simpa using hx
        | succ m => simpa using h3 m (by omega)

theorem vix_none {p : Vo → Bool} : ∀ {l : List Vo}, vix p l = none ↔ ∀ x ∈ l, p x = false
  | [] => by simp [vix]
  | x :: r => by
    unfold vix
    by_cases hx : p x = true
    · rw [if_pos hx]; simp [hx]
    · rw [if_neg hx]
      simp only [Option.map_eq_none_iff, List.mem_cons, forall_eq_or_imp]
      rw [vix_none]
      simp [hx]

theorem vix_of {p : Vo → Bool} {l : List Vo} {i : Nat} (h : i < l.length) (h1 : p l[i] = true) (h2 : ∀ j (hj : j < i), p (l[j]'(by omega)) = false) : vix p l = some i := by
  cases hv : vix p l with
  | none => rw [vix_none] at hv; rw [hv _ (List.getElem_mem h)] at h1; cases h1
  | some k =>
    obtain ⟨k1, k2, k3⟩ := vix_some hv
    rcases Nat.lt_trichotomy i k with hk | hk | hk
    · rw [k3 i hk] at h1; cases h1
    · rw [hk]
    · rw [h2 k hk] at k2; cases k2

theorem vix_any {p : Vo → Bool} {l : List Vo} : l.any p = (vix p l).isSome := by
  cases hv : vix p l with
  | none => rw [vix_none] at hv; simpa using hv
  | some k => obtain ⟨k1, k2, _⟩ := vix_some hv; simp only [Option.isSome_some, List.any_eq_true]; exact ⟨_, List.getElem_mem k1, k2⟩

theorem slt_irrefl : ∀ a : List UInt8, slt a a = false
  | [] => rfl
  | x :: r => by unfold slt; simp [slt_irrefl r]

theorem slt_trans : ∀ {a b c : List UInt8}, slt a b = true → slt b c = true → slt a c = true
  | _, [], _, h, _ => by simp [slt] at h
  | _, _ :: _, [], _, h => by simp [slt] at h
  | [], _ :: _, _ :: _, _, _ => rfl
  | x :: a, y :: b, z :: c, h, k => by
    unfold slt at h k ⊢
    simp only [Bool.or_eq_true, decide_eq_true_eq, Bool.and_eq_true, beq_iff_eq] at h k ⊢
    rcases h with h | ⟨rfl, h⟩
    · rcases k with k | ⟨rfl, k⟩
      · exact .inl (UInt8.lt_trans h k)
      · exact .inl h
    · rcases k with k | ⟨rfl, k⟩
      · exact .inl k
      · exact .inr ⟨rfl, slt_trans h k⟩

theorem slt_total : ∀ a b : List UInt8, slt a b = true ∨ a = b ∨ slt b a = true
  | [], [] => .inr (.inl rfl)
  | [], _ :: _ => .inl rfl
  | _ :: _, [] => .inr (.inr rfl)
  | x :: a, y :: b => by
    unfold slt
    simp only [Bool.or_eq_true, decide_eq_true_eq, Bool.and_eq_true, beq_iff_eq]
    rcases UInt8.lt_or_lt_of_ne (a := x) (b := y) |> fun h => (Classical.em (x = y)).symm.imp h id with h | rfl
    · rcases h with h | h
      · exact .inl (.inl h)
      · exact .inr (.inr (.inl h))
    · rcases slt_total a b with h | rfl | h
      · exact .inl (.inr ⟨rfl, h⟩)
      · exact .inr (.inl rfl)
      · exact .inr (.inr (.inr ⟨rfl, h⟩))

theorem sle_iff (a b : List UInt8) : sle a b = true ↔ slt a b = true ∨ a = b := by unfold sle; simp

theorem sle_not (a b : List UInt8) : (!(sle a b)) = slt b a := by
  rcases slt_total a b with h | h | h
  · have h2 : slt b a = false := by
      cases hb : slt b a with
      | false => rfl
      | true => have := slt_trans h hb; rw [slt_irrefl] at this; cases this
    rw [h2]; unfold sle; simp [h]
  · subst h; rw [slt_irrefl]; unfold sle; simp
  · rw [h]
    unfold sle
    have h1 : slt a b = false := by
      cases hb : slt a b with
      | false => rfl
      | true => have := slt_trans h hb; rw [slt_irrefl] at this; cases this
    have h2 : (a == b) = false := by
      cases hb : a == b with
      | false => rfl
      | true => rw [beq_iff_eq] at hb; subst hb; rw [slt_irrefl] at h; cases h
    simp [h1, h2]

theorem cnt_nil (i : Idn) : cnt [] i = 0 := rfl
theorem cnt_append (a b : List Idn) (i : Idn) : cnt (a ++ b) i = cnt a i + cnt b i := by unfold cnt; rw [List.filter_append, List.length_append]; omega
theorem cnt_snoc (a : List Idn) (j i : Idn) : cnt (a ++ [j]) i = cnt a i + (if j = i then 1 else 0) := by
  rw [cnt_append]; unfold cnt; by_cases h : j = i <;> simp [h]
theorem cnt_nonneg (a : List Idn) (i : Idn) : 0 ≤ cnt a i := by unfold cnt; omega
theorem cnt_le (a : List Idn) (i : Idn) : cnt a i ≤ a.length := by unfold cnt; have := List.length_filter_le (fun j => j == i) a; omega

theorem chkB_zero {l : List Itm} : ∀ {bl : List Idn}, chkB l bl = 0 ↔ ∀ i ∈ bl, errB l i = 0
  | [] => by simp [chkB]
  | i :: r => by
    unfold chkB
    by_cases h : errB l i = 0
    · rw [if_pos h, chkB_zero]; simp [h]
    · rw [if_neg h]; simp [h]

theorem chkB_step {l : List Itm} : ∀ {bl : List Idn} {k : Nat} (_ : ∀ i ∈ bl.take k, errB l i = 0), chkB l bl = chkB l (bl.drop k)
  | _, 0, _ => by simp
  | [], k + 1, _ => by simp
  | i :: r, k + 1, h => by
    have h1 : errB l i = 0 := h i (by simp)
    rw [List.drop_succ_cons]
    rw [← chkB_step (bl := r) (k := k) (fun j hj => h j (by simp [hj]))]
    show (if errB l i = 0 then chkB l r else errB l i) = _
    rw [if_pos h1]

theorem errB_range (l : List Itm) (i : Idn) : errB l i = 0 ∨ errB l i = 3 ∨ errB l i = 4 := by
  unfold errB
  split
  · exact .inr (.inl rfl)
  · split
    · exact .inr (.inr rfl)
    · exact .inl rfl

end WoolVol
