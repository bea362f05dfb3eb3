/-
  Bags as lists, in plain words: what Check, Put, Get and Drop of package bag make of a list of items, by whatever fingerprint. Conditions: as each says.
-/
import Init
namespace WoolBag

/-- an item: its sum, its number, its block, its references -/
structure Itm where
  s : Int
  n : Int
  t : List UInt8
  r : Int

instance : Inhabited Itm := ⟨⟨0, 0, [], 0⟩⟩

theorem Itm.ext' {a b : Itm} (h1 : a.s = b.s) (h2 : a.n = b.n) (h3 : a.t = b.t) (h4 : a.r = b.r) : a = b := by
  cases a; cases b; simp_all

/-- x stands behind a -/
def behB (a x : Itm) : Bool := decide (a.s < x.s) || (x.s == a.s && decide (a.n < x.n))

def Beh (a x : Itm) : Prop := a.s < x.s ∨ (x.s = a.s ∧ a.n < x.n)
theorem beh_iff (a x : Itm) : behB a x = true ↔ Beh a x := by
  unfold behB Beh; simp

/-- the item's own bounds -/
def argB (x : Itm) : Bool := decide (x.n < 0) || decide (63 < x.n) || decide (x.r < 1) || decide (1000000 < x.r)

def lastB (before : List Itm) (x : Itm) : Bool :=
  match before.getLast? with
  | none => true
  | some a => behB a x

def txtB (t : List UInt8) (y : Itm) : Bool := y.t == t
def idB (i : Bool × Int × Int) (y : Itm) : Bool := i.1 && (y.s == i.2.1) && (y.n == i.2.2)

variable (F : List UInt8 → Int)

/-- what is wrong with x behind the items before it -/
def errI (before : List Itm) (x : Itm) : Int :=
  if 64 < x.t.length then 2
  else if x.s ≠ F x.t then 6
  else if argB x = true then 1
  else if lastB before x = false then 3
  else if before.any (txtB x.t) = true then 5
  else 0

def chkL (before : List Itm) : List Itm → Int
  | [] => 0
  | x :: r => if errI F before x = 0 then chkL (before ++ [x]) r else errI F before x

def chk (l : List Itm) : Int := if 64 < l.length then 2 else chkL F [] l

/-- the first place at which p holds -/
def idx (p : Itm → Bool) : List Itm → Option Nat
  | [] => none
  | x :: r => if p x = true then some 0 else (idx p r).map (· + 1)

theorem idx_some {p : Itm → Bool} : ∀ {l : List Itm} {i : Nat}, idx p l = some i → ∃ h : i < l.length, p l[i] = true ∧ ∀ j (hj : j < i), p (l[j]'(by omega)) = false
  | [], i, h => by simp [idx] at h
  | x :: r, i, h => by
    unfold idx at h
    by_cases hx : p x = true
    · rw [if_pos hx] at h
      cases h
      exact ⟨by simp, hx, fun j hj => by omega⟩
    · rw [if_neg hx] at h
      obtain ⟨k, hk, rfl⟩ := Option.map_eq_some_iff.1 h
      obtain ⟨h1, h2, h3⟩ := idx_some hk
      refine ⟨by simp; omega, by simpa using h2, fun j hj => ?_⟩
      cases j with
      | zero => simpa using hx
      | succ j => simpa using h3 j (by omega)

theorem idx_none {p : Itm → Bool} : ∀ {l : List Itm}, idx p l = none ↔ ∀ x ∈ l, p x = false
  | [] => by simp [idx]
  | x :: r => by
    unfold idx
    by_cases hx : p x = true
    · rw [if_pos hx]; simp [hx]
    · rw [if_neg hx]
      simp only [Option.map_eq_none_iff, List.mem_cons, forall_eq_or_imp]
      rw [idx_none (l := r)]
      simp [hx]

theorem idx_of {p : Itm → Bool} : ∀ {l : List Itm} {i : Nat} (h : i < l.length), p l[i] = true → (∀ j (hj : j < i), p (l[j]'(by omega)) = false) → idx p l = some i
  | [], i, h, _, _ => by simp at h
  | x :: r, 0, h, h1, _ => by unfold idx; rw [if_pos (by simpa using h1)]
  | x :: r, i + 1, h, h1, h2 => by
    unfold idx
    have hx : p x = false := by simpa using h2 0 (by omega)
    rw [if_neg (by simp [hx]), idx_of (l := r) (i := i) (by simpa using h) (by simpa using h1) (fun j hj => by simpa using h2 (j + 1) (by omega))]
    rfl

theorem any_iff {p : Itm → Bool} {l : List Itm} : l.any p = true ↔ idx p l ≠ none := by
  rw [Ne, idx_none, List.any_eq_true]
  constructor
  · rintro ⟨x, hx, h⟩ hn; rw [hn x hx] at h; cases h
  · intro h
    by_cases h' : ∃ x ∈ l, p x = true
    · exact h'
    · exact absurd (fun x hx => by simpa using fun hp => h' ⟨x, hx, hp⟩) h

/-- an item that may be in a bag -/
def Ok (x : Itm) : Prop := x.t.length ≤ 64 ∧ x.s = F x.t ∧ 0 ≤ x.n ∧ x.n ≤ 63 ∧ 1 ≤ x.r ∧ x.r ≤ 1000000

/-- a right bag -/
structure Bag (l : List Itm) : Prop where
  len : l.length ≤ 64
  ok : ∀ x ∈ l, Ok F x
  beh : l.Pairwise Beh
  txt : l.Pairwise (fun a b => a.t ≠ b.t)

theorem Beh.trans {a b c : Itm} (h : Beh a b) (k : Beh b c) : Beh a c := by
  unfold Beh at *; omega
theorem Beh.irrefl {a : Itm} (h : Beh a a) : False := by unfold Beh at h; omega
theorem Beh.asymm {a b : Itm} (h : Beh a b) (k : Beh b a) : False := (h.trans k).irrefl

theorem arg_iff (x : Itm) : argB x = false ↔ 0 ≤ x.n ∧ x.n ≤ 63 ∧ 1 ≤ x.r ∧ x.r ≤ 1000000 := by
  unfold argB; simp; omega

theorem errI_zero {before : List Itm} {x : Itm} : errI F before x = 0 ↔ Ok F x ∧ lastB before x = true ∧ ∀ y ∈ before, y.t ≠ x.t := by
  unfold errI Ok
  constructor
  · intro h
    split at h
    · cases h
    split at h
    · cases h
    split at h
    · cases h
    split at h
    · cases h
    split at h
    · cases h
    rename_i h1 h2 h3 h4 h5
    have h3' := (arg_iff x).1 (by simpa using h3)
    refine ⟨⟨by omega, by simpa using h2, h3'.1, h3'.2.1, h3'.2.2.1, h3'.2.2.2⟩, by simpa using h4, fun y hy e => h5 ?_⟩
    rw [List.any_eq_true]
    exact ⟨y, hy, by unfold txtB; simpa using e⟩
  · rintro ⟨⟨a1, a2, a3⟩, b, c⟩
    rw [if_neg (by omega), if_neg (by simpa using a2), if_neg (by rw [(arg_iff x).2 a3]; simp), if_neg (by simp [b]), if_neg ?_]
    rw [List.any_eq_true]
    rintro ⟨y, hy, e⟩
    unfold txtB at e
    exact c y hy (by simpa using e)

theorem chkL_zero : ∀ (r before : List Itm), chkL F before r = 0 ↔ (∀ k (h : k < r.length), errI F (before ++ r.take k) r[k] = 0)
  | [], before => by simp [chkL]
  | x :: r, before => by
    unfold chkL
    by_cases h : errI F before x = 0
    · rw [if_pos h, chkL_zero r (before ++ [x])]
      constructor
      · intro hk k hlt
        cases k with
        | zero => simpa using h
        | succ k => simpa using hk k (by simpa using hlt)
      · intro hk k hlt
        have := hk (k + 1) (by simpa using hlt)
        simpa using this
    · rw [if_neg h]
      constructor
      · intro h'; exact absurd h' h
      · intro hk
        have := hk 0 (by simp)
        simp at this
        exact absurd this h

theorem pairwise_iff_take {R : Itm → Itm → Prop} {l : List Itm} : l.Pairwise R ↔ ∀ k (h : k < l.length), ∀ y ∈ l.take k, R y l[k] := by
  rw [List.pairwise_iff_getElem]
  constructor
  · intro h k hk y hy
    obtain ⟨j, hj, rfl⟩ := List.getElem_of_mem hy
    rw [List.length_take] at hj
    rw [List.getElem_take]
    exact h j k (by omega) hk (by omega)
  · intro h i j hi hj hij
    exact h j hj _ (by rw [List.mem_take_iff_getElem]; exact ⟨i, by omega, rfl⟩)

theorem last_take {l : List Itm} {k : Nat} (h : k + 1 < l.length) (x : Itm) : lastB (l.take (k + 1)) x = behB (l[k]'(by omega)) x := by
  unfold lastB
  rw [List.getLast?_eq_getElem?, List.length_take, Nat.min_eq_left (by omega), Nat.add_sub_cancel, List.getElem?_take_of_lt (by omega), List.getElem?_eq_getElem (by omega)]

theorem beh_of_steps {l : List Itm} (h : ∀ k (hk : k + 1 < l.length), Beh (l[k]'(by omega)) l[k + 1]) : l.Pairwise Beh := by
  rw [List.pairwise_iff_getElem]
  intro i j hi hj hij
  obtain ⟨d, rfl⟩ : ∃ d, j = i + 1 + d := ⟨j - (i + 1), by omega⟩
  induction d with
  | zero => exact h i (by omega)
  | succ d ih => exact (ih (by omega) (by omega)).trans (h (i + 1 + d) (by omega))

theorem chk_zero {l : List Itm} : chk F l = 0 ↔ Bag F l := by
  unfold chk
  constructor
  · intro h
    split at h
    · cases h
    rename_i hl
    rw [chkL_zero] at h
    have h' : ∀ k (hk : k < l.length), Ok F l[k] ∧ lastB (l.take k) l[k] = true ∧ ∀ y ∈ l.take k, y.t ≠ (l[k]).t := fun k hk => (errI_zero F).1 (by simpa using h k hk)
    refine ⟨by omega, fun x hx => ?_, beh_of_steps fun k hk => ?_, pairwise_iff_take.2 fun k hk => (h' k hk).2.2⟩
    · obtain ⟨i, hi, rfl⟩ := List.getElem_of_mem hx
      exact (h' i hi).1
    · rw [← beh_iff, ← last_take hk]
      exact (h' (k + 1) hk).2.1
  · intro h
    rw [if_neg (by have := h.len; omega), chkL_zero]
    intro k hk
    rw [List.nil_append, errI_zero]
    refine ⟨h.ok _ (List.getElem_mem hk), ?_, (pairwise_iff_take.1 h.txt) k hk⟩
    cases k with
    | zero => simp [lastB]
    | succ k =>
      rw [last_take hk, beh_iff]
      exact (List.pairwise_iff_getElem.1 h.beh) k (k + 1) (by omega) hk (by omega)

theorem errI_range (before : List Itm) (x : Itm) : errI F before x = 0 ∨ errI F before x = 2 ∨ errI F before x = 6 ∨ errI F before x = 1 ∨ errI F before x = 3 ∨ errI F before x = 5 := by
  unfold errI
  repeat' split
  all_goals simp

/-! ytabhalajelbfoaa# Put -/

/-- how many have the sum σ and a number from k on -/
def from_ (l : List Itm) (σ : Int) (k : Nat) : Nat := (l.filter fun y => y.s == σ && decide ((k : Int) ≤ y.n)).length

theorem from_lt {l : List Itm} {σ : Int} {k : Nat} (h : l.any (idB (true, σ, (k : Int))) = true) : from_ l σ (k + 1) + 1 ≤ from_ l σ k := by
  unfold from_
  obtain ⟨y, hy, e⟩ := List.any_eq_true.1 h
  unfold idB at e
  simp at e
  induction l with
  | nil => simp at hy
  | cons x r ih =>
    have mono : ∀ r : List Itm, (r.filter fun y => y.s == σ && decide (((k + 1 : Nat) : Int) ≤ y.n)).length ≤ (r.filter fun y => y.s == σ && decide ((k : Int) ≤ y.n)).length := fun r => by
      induction r with
      | nil => simp
      | cons z q iq =>
        rw [List.filter_cons, List.filter_cons]
        by_cases hz : (z.s == σ && decide (((k + 1 : Nat) : Int) ≤ z.n)) = true
        · have hz' : (z.s == σ && decide ((k : Int) ≤ z.n)) = true := by simp at hz ⊢; omega
          rw [if_pos hz, if_pos hz']; simpa using iq
        · rw [if_neg hz]
          split
          · rw [List.length_cons]; omega
          · exact iq
    rw [List.filter_cons, List.filter_cons]
    rcases List.mem_cons.1 hy with rfl | hy
    · rw [if_neg (by simp; omega), if_pos (by simp [e])]
      have := mono r
      rw [List.length_cons]; omega
    · have := ih (by rw [List.any_eq_true]; exact ⟨y, hy, by unfold idB; simp [e]⟩) hy
      by_cases hz : (x.s == σ && decide (((k + 1 : Nat) : Int) ≤ x.n)) = true
      · have hz' : (x.s == σ && decide ((k : Int) ≤ x.n)) = true := by simp at hz ⊢; omega
        rw [if_pos hz, if_pos hz']; simpa using this
      · rw [if_neg hz]
        split
        · rw [List.length_cons]; omega
        · exact this

/-- the smallest number from k on that no item with the sum σ has -/
def nfree (l : List Itm) (σ : Int) (k : Nat) : Nat :=
  if h : l.any (idB (true, σ, (k : Int))) = true then nfree l σ (k + 1) else k
  termination_by from_ l σ k
  decreasing_by have := from_lt h; omega

theorem nfree_step {l : List Itm} {σ : Int} {k : Nat} (h : l.any (idB (true, σ, (k : Int))) = true) : nfree l σ k = nfree l σ (k + 1) := by
  rw [nfree, dif_pos h]
theorem nfree_stop {l : List Itm} {σ : Int} {k : Nat} (h : l.any (idB (true, σ, (k : Int))) = false) : nfree l σ k = k := by
  rw [nfree, dif_neg (by simp [h])]

theorem nfree_spec (l : List Itm) (σ : Int) (k : Nat) : k ≤ nfree l σ k ∧ nfree l σ k ≤ k + from_ l σ k ∧ l.any (idB (true, σ, (nfree l σ k : Int))) = false ∧ ∀ j, k ≤ j → j < nfree l σ k → l.any (idB (true, σ, (j : Int))) = true := by
  by_cases h : l.any (idB (true, σ, (k : Int))) = true
  · have ih := nfree_spec l σ (k + 1)
    have hlt := from_lt h
    rw [nfree_step h]
    refine ⟨by omega, by omega, ih.2.2.1, fun j h1 h2 => ?_⟩
    by_cases e : j = k
    · subst e; exact h
    · exact ih.2.2.2 j (by omega) h2
  · have h' : l.any (idB (true, σ, (k : Int))) = false := by simpa using h
    rw [nfree_stop h']
    exact ⟨Nat.le_refl _, by omega, h', fun j h1 h2 => by omega⟩
  termination_by from_ l σ k
  decreasing_by have := from_lt h; omega

theorem from_le (l : List Itm) (σ : Int) (k : Nat) : from_ l σ k ≤ l.length := List.length_filter_le _ _

/-- where x goes -/
def place (x : Itm) (l : List Itm) : Nat := (idx (behB x) l).getD l.length

def ins (x : Itm) (l : List Itm) : List Itm := l.take (place x l) ++ x :: l.drop (place x l)

def new (l : List Itm) (t : List UInt8) : Itm := ⟨F t, (nfree l (F t) 0 : Int), t, 1⟩

def more (x : Itm) (d : Int) : Itm := ⟨x.s, x.n, x.t, x.r + d⟩

def idOf (x : Itm) : Bool × Int × Int := (true, x.s, x.n)
def noId : Bool × Int × Int := (false, 0, 0)

/-- what Put answers -/
def put (l : List Itm) (t : List UInt8) : List Itm × (Bool × Int × Int) × Int :=
  if chk F l ≠ 0 then ([], noId, chk F l)
  else if 64 < t.length then ([], noId, 2)
  else match idx (txtB t) l with
    | some i => if (l[i]!).r = 1000000 then ([], noId, 8) else (l.set i (more l[i]! 1), idOf l[i]!, 0)
    | none => if l.length = 64 then ([], noId, 8) else (ins (new F l t) l, idOf (new F l t), 0)

/-- what find answers -/
def find (l : List Itm) (i : Bool × Int × Int) : Nat × Int :=
  if chk F l ≠ 0 then (0, chk F l)
  else match idx (idB i) l with
    | some k => (k, 0)
    | none => (0, 4)

def get (l : List Itm) (i : Bool × Int × Int) : List UInt8 × Int :=
  if (find F l i).2 = 0 then ((l[(find F l i).1]!).t, 0) else ([], (find F l i).2)

def less (l : List Itm) (k : Nat) : List Itm :=
  if (l[k]!).r = 1 then l.eraseIdx k else l.set k (more l[k]! (-1))

def drop (l : List Itm) (i : Bool × Int × Int) : List Itm × Int :=
  if (find F l i).2 = 0 then (less l (find F l i).1, 0) else ([], (find F l i).2)

end WoolBag
