/-
  Volumes in plain words: what Name, Check, Blocks, Make, Drop, Read, Trim, Write and Clone of package vol make of a bag and a list of volumes, by whatever fingerprint. Conditions: as each says.
-/
import Derived.Test.YtnmdfdkagkpcaaaJDiffCopies09
namespace WoolVol
open WoolBag

abbrev Idn := Bool × Int × Int

/-- a volume: its name, its blocks -/
structure Vo where
  nm : List UInt8
  bl : List Idn

instance : Inhabited Vo := ⟨⟨[], []⟩⟩

/-- a state: a bag and volumes -/
structure Sta where
  b : List Itm
  v : List Vo

def zeroS : Sta := ⟨[], []⟩

def nbB (c : UInt8) : Bool := (decide (97 ≤ c.toNat) && decide (c.toNat ≤ 122)) || (decide (48 ≤ c.toNat) && decide (c.toNat ≤ 57))
def nameB (s : List UInt8) : Bool := decide (1 ≤ s.length) && decide (s.length ≤ 12) && s.all nbB

/-- the order of names, byte by byte -/
def slt : List UInt8 → List UInt8 → Bool
  | _, [] => false
  | [], _ :: _ => true
  | a :: x, b :: y => decide (a < b) || (a == b && slt x y)

def sle (a b : List UInt8) : Bool := slt a b || a == b

/-- what is wrong with a block's identifier -/
def errB (l : List Itm) (i : Idn) : Int :=
  if !i.1 && !(i == noId) then 3 else if i.1 && !(l.any (idB i)) then 4 else 0

def chkB (l : List Itm) : List Idn → Int
  | [] => 0
  | i :: r => if errB l i = 0 then chkB l r else errB l i

def chkV (l : List Itm) (before : List UInt8) (v : Vo) : Int :=
  if !(nameB v.nm) || sle v.nm before then 3 else if 32 < v.bl.length then 2 else chkB l v.bl

def chkVs (l : List Itm) (before : List UInt8) : List Vo → Int
  | [] => 0
  | v :: r => if chkV l before v = 0 then chkVs l v.nm r else chkV l before v

/-- how often an identifier stands in a list -/
def cnt (l : List Idn) (i : Idn) : Int := ((l.filter (fun j => j == i)).length : Int)

def ids (vs : List Vo) : List Idn := (vs.map (·.bl)).flatten

def refsB (l : List Itm) (all : List Idn) : Bool := l.all (fun x => x.r == cnt all (idOf x))

variable (F : List UInt8 → Int)

def chkS (st : Sta) : Int :=
  if chk F st.b ≠ 0 then chk F st.b
  else if 6 < st.v.length then 2
  else if chkVs st.b [] st.v ≠ 0 then chkVs st.b [] st.v
  else if refsB st.b (ids st.v) then 0 else 11

/-- the first place at which p holds -/
def vix (p : Vo → Bool) : List Vo → Option Nat
  | [] => none
  | x :: r => if p x = true then some 0 else (vix p r).map (· + 1)

def nmB (s : List UInt8) (v : Vo) : Bool := v.nm == s
def gtB (s : List UInt8) (v : Vo) : Bool := !(sle v.nm s)

def vfind (st : Sta) (s : List UInt8) : Nat × Int :=
  if chkS F st ≠ 0 then (0, chkS F st)
  else match vix (nmB s) st.v with
    | some k => (k, 0)
    | none => (0, 4)

def vloc (st : Sta) (s : List UInt8) (a : Int) : Nat × Int :=
  if (vfind F st s).2 ≠ 0 then (0, (vfind F st s).2)
  else if a < 0 ∨ ((st.v[(vfind F st s).1]!).bl.length : Int) ≤ a then (0, 1)
  else ((vfind F st s).1, 0)

def blocks (st : Sta) (s : List UInt8) : List Idn × Int :=
  if (vfind F st s).2 ≠ 0 then ([], (vfind F st s).2) else ((st.v[(vfind F st s).1]!).bl, 0)

/-- block a of volume i -/
def blk (st : Sta) (i : Nat) (a : Nat) : Idn := (st.v[i]!).bl[a]!

def read (st : Sta) (s : List UInt8) (a : Int) : List UInt8 × Int :=
  if (vloc F st s a).2 ≠ 0 then ([], (vloc F st s a).2)
  else if (blk st (vloc F st s a).1 a.toNat).1 then get F st.b (blk st (vloc F st s a).1 a.toNat) else ([], 0)

/-- why no volume of a name can be added -/
def newE (st : Sta) (s : List UInt8) : Int :=
  if !(nameB s) then 3 else if st.v.any (nmB s) then 5 else if st.v.length = 6 then 8 else 0

def vplace (s : List UInt8) (l : List Vo) : Nat := (vix (gtB s) l).getD l.length
def vins (x : Vo) (l : List Vo) : List Vo := l.take (vplace x.nm l) ++ x :: l.drop (vplace x.nm l)

def make (st : Sta) (s : List UInt8) (n : Int) : Sta × Int :=
  if chkS F st ≠ 0 then (zeroS, chkS F st)
  else if n < 1 ∨ 32 < n then (zeroS, 1)
  else if newE st s ≠ 0 then (zeroS, newE st s)
  else (⟨st.b, vins ⟨s, List.replicate n.toNat noId⟩ st.v⟩, 0)

/-- a reference taken from each -/
def rel (l : List Itm) : List Idn → List Itm
  | [] => l
  | i :: r => rel (if i.1 then (drop F l i).1 else l) r

def vdrop (st : Sta) (s : List UInt8) : Sta × Int :=
  if (vfind F st s).2 ≠ 0 then (zeroS, (vfind F st s).2)
  else (⟨rel F st.b (st.v[(vfind F st s).1]!).bl, st.v.eraseIdx (vfind F st s).1⟩, 0)

/-- an identifier laid at a place of a volume -/
def setB (l : List Vo) (i a : Nat) (x : Idn) : List Vo := l.set i ⟨(l[i]!).nm, (l[i]!).bl.set a x⟩

def trim (st : Sta) (s : List UInt8) (a : Int) : Sta × Int :=
  if (vloc F st s a).2 ≠ 0 then (zeroS, (vloc F st s a).2)
  else (⟨rel F st.b [blk st (vloc F st s a).1 a.toNat], setB st.v (vloc F st s a).1 a.toNat noId⟩, 0)

def write (st : Sta) (s : List UInt8) (a : Int) (t : List UInt8) : Sta × Int :=
  if (trim F st s a).2 ≠ 0 then (zeroS, (trim F st s a).2)
  else if (put F (trim F st s a).1.b t).2.2 ≠ 0 then (zeroS, (put F (trim F st s a).1.b t).2.2)
  else (⟨(put F (trim F st s a).1.b t).1, setB (trim F st s a).1.v (vloc F st s a).1 a.toNat (put F (trim F st s a).1.b t).2.1⟩, 0)

def ret (l : List Itm) (bl : List Idn) : List Itm := l.map (fun x => more x (cnt bl (idOf x)))

def clone (st : Sta) (s t : List UInt8) : Sta × Int :=
  if (vfind F st s).2 ≠ 0 then (zeroS, (vfind F st s).2)
  else if newE st t ≠ 0 then (zeroS, newE st t)
  else (⟨ret st.b (st.v[(vfind F st s).1]!).bl, vins ⟨t, (st.v[(vfind F st s).1]!).bl⟩ st.v⟩, 0)

theorem vix_some {p : Vo → Bool} : ∀ {l : List Vo} {i : Nat}, vix p l = some i → ∃ h : i < l.length, p l[i] = true ∧ ∀ j (hj : j < i), p (l[j]'(by omega)) = false
  | [], i, h => by simp [vix] at h
  | x :: r, i, h => by
    unfold vix at h
    by_cases hx : p x = true
    · rw [if_pos hx] at h
      cases h
      exact ⟨by simp, hx, fun j hj => absurd hj (by omega)⟩
    · rw [if_neg hx] at h
      cases hr : vix p r with
      | none => rw [hr] at h; simp at h
      | some k =>
        rw [hr] at h
        simp at h
        subst h
        obtain ⟨h1, h2, h3⟩ := vix_some hr
        refine ⟨by simp; omega, by simpa using h2, fun j hj => ?_⟩
        cases j with
        | zero => simpa using hx
        | succ m => simpa using h3 m (by omega)

theorem vix_none {p : Vo → Bool} : ∀ {l : List Vo}, vix p l = none ↔ ∀ x ∈ l, p x = false
  | [] => by simp [vix]
  | x :: r => by
    unfold vix
    by_cases hx : p x = true
    · rw [if_pos hx]; simp [hx]
    · rw [if_neg hx]
      simp only [Option.map_eq_none_iff, List.mem_cons, forall_eq_or_imp]
      rw [vix_none]
      simp [hx]

theorem vix_of {p : Vo → Bool} {l : List Vo} {i : Nat} (h : i < l.length) (h1 : p l[i] = true) (h2 : ∀ j (hj : j < i), p (l[j]'(by omega)) = false) : vix p l = some i := by
  cases hv : vix p l with
  | none => rw [vix_none] at hv; rw [hv _ (List.getElem_mem h)] at h1; cases h1
  | some k =>
    obtain ⟨k1, k2, k3⟩ := vix_some hv
    rcases Nat.lt_trichotomy i k with hk | hk | hk
    · rw [k3 i hk] at h1; cases h1
    · rw [hk]
    · rw [h2 k hk] at k2; cases k2

theorem vix_any {p : Vo → Bool} {l : List Vo} : l.any p = (vix p l).isSome := by
  cases hv : vix p l with
  | none => rw [vix_none] at hv; simpa using hv
  | some k => obtain ⟨k1, k2, _⟩ := vix_some hv; simp only [Option.isSome_some, List.any_eq_true]; exact ⟨_, List.getElem_mem k1, k2⟩

theorem slt_irrefl : ∀ a : List UInt8, slt a a = false
  | [] => rfl
  | x :: r => by unfold slt; simp [slt_irrefl r]

theorem slt_trans : ∀ {a b c : List UInt8}, slt a b = true → slt b c = true → slt a c = true
  | _, [], _, h, _ => by simp [slt] at h
  | _, _ :: _, [], _, h => by simp [slt] at h
  | [], _ :: _, _ :: _, _, _ => rfl
  | x :: a, y :: b, z :: c, h, k => by
    unfold slt at h k ⊢
    simp only [Bool.or_eq_true, decide_eq_true_eq, Bool.and_eq_true, beq_iff_eq] at h k ⊢
    rcases h with h | ⟨rfl, h⟩
    · rcases k with k | ⟨rfl, k⟩
      · exact .inl (UInt8.lt_trans h k)
      · exact .inl h
    · rcases k with k | ⟨rfl, k⟩
      · exact .inl k
      · exact .inr ⟨rfl, slt_trans h k⟩

theorem slt_total : ∀ a b : List UInt8, slt a b = true ∨ a = b ∨ slt b a = true
  | [], [] => .inr (.inl rfl)
  | [], _ :: _ => .inl rfl
  | _ :: _, [] => .inr (.inr rfl)
  | x :: a, y :: b => by
    unfold slt
    simp only [Bool.or_eq_true, decide_eq_true_eq, Bool.and_eq_true, beq_iff_eq]
    rcases UInt8.lt_or_lt_of_ne (a := x) (b := y) |> fun h => (Classical.em (x = y)).symm.imp h id with h | rfl
    · rcases h with h | h
      · exact .inl (.inl h)
      · exact .inr (.inr (.inl h))
    · rcases slt_total a b with h | rfl | h
      · exact .inl (.inr ⟨rfl, h⟩)
      · exact .inr (.inl rfl)
      · exact .inr (.inr (.inr ⟨rfl, h⟩))

theorem sle_iff (a b : List UInt8) : sle a b = true ↔ slt a b = true ∨ a = b := by unfold sle; simp

theorem sle_not (a b : List UInt8) : (!(sle a b)) = slt b a := by
  rcases slt_total a b with h | h | h
  · have h2 : slt b a = false := by
      cases hb : slt b a with
      | false => rfl
      | true => have := slt_trans h hb; rw [slt_irrefl] at this; cases this
    rw [h2]; unfold sle; simp [h]
  · subst h; rw [slt_irrefl]; unfold sle; simp
  · rw [h]
    unfold sle
    have h1 : slt a b = false := by
      cases hb : slt a b with
      | false => rfl
      | true => have := slt_trans h hb; rw [slt_irrefl] at this; cases this
    have h2 : (a == b) = false := by
      cases hb : a == b with
      | false => rfl
      | true => rw [beq_iff_eq] at hb; subst hb; rw [slt_irrefl] at h; cases h
    simp [h1, h2]

theorem cnt_nil (i : Idn) : cnt [] i = 0 := rfl
theorem cnt_append (a b : List Idn) (i : Idn) : cnt (a ++ b) i = cnt a i + cnt b i := by unfold cnt; rw [List.filter_append, List.length_append]; omega
theorem cnt_snoc (a : List Idn) (j i : Idn) : cnt (a ++ [j]) i = cnt a i + (if j = i then 1 else 0) := by
  rw [cnt_append]; unfold cnt; by_cases h : j = i <;> simp [h]
theorem cnt_nonneg (a : List Idn) (i : Idn) : 0 ≤ cnt a i := by unfold cnt; omega
theorem cnt_le (a : List Idn) (i : Idn) : cnt a i ≤ a.length := by unfold cnt; have := List.length_filter_le (fun j => j == i) a; omega

theorem chkB_zero {l : List Itm} : ∀ {bl : List Idn}, chkB l bl = 0 ↔ ∀ i ∈ bl, errB l i = 0
  | [] => by simp [chkB]
  | i :: r => by
    unfold chkB
    by_cases h : errB l i = 0
    · rw [if_pos h, chkB_zero]; simp [h]
    · rw [if_neg h]; simp [h]

theorem chkB_step {l : List Itm} : ∀ {bl : List Idn} {k : Nat} (_ : ∀ i ∈ bl.take k, errB l i = 0), chkB l bl = chkB l (bl.drop k)
  | _, 0, _ => by simp
  | [], k + 1, _ => by simp
  | i :: r, k + 1, h => by
    have h1 : errB l i = 0 := h i (by simp)
    rw [List.drop_succ_cons]
    rw [← chkB_step (bl := r) (k := k) (fun j hj => h j (by simp [hj]))]
    show (if errB l i = 0 then chkB l r else errB l i) = _
    rw [if_pos h1]

theorem errB_range (l : List Itm) (i : Idn) : errB l i = 0 ∨ errB l i = 3 ∨ errB l i = 4 := by
  unfold errB
  split
  · exact .inr (.inl rfl)
  · split
    · exact .inr (.inr rfl)
    · exact .inl rfl

end WoolVol
