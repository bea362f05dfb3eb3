/-
  Segments in plain words: what Check, Put, Live and Clean of package seg make of lists of records and a bag; what is live, kept and saved. Conditions: as each says.
-/
import Derived.Test.YtabhalajelbfoaaBagP
namespace WoolSeg
open WoolBag

/-- a record: an identifier and a text -/
abbrev Rc := (Bool × Int × Int) × List UInt8

def rcOf (x : Itm) : Rc := (idOf x, x.t)
def takes (s : List Rc) : Nat := (s.map fun r => 8 + r.2.length).sum

theorem takes_nil : takes [] = 0 := rfl
theorem takes_cons (r : Rc) (s : List Rc) : takes (r :: s) = 8 + r.2.length + takes s := by unfold takes; rw [List.map_cons, List.sum_cons]
theorem takes_append (a b : List Rc) : takes (a ++ b) = takes a + takes b := by
  induction a with
  | nil => simp [takes]
  | cons r a ih => rw [List.cons_append, takes_cons, takes_cons, ih]; omega
theorem takes_perm {a b : List Rc} (h : a.Perm b) : takes a = takes b := by
  induction h with
  | nil => rfl
  | cons x _ ih => rw [takes_cons, takes_cons, ih]
  | swap x y l => rw [takes_cons, takes_cons, takes_cons, takes_cons]; omega
  | trans _ _ h1 h2 => exact h1.trans h2
theorem takes_sublist {a b : List Rc} (h : a.Sublist b) : takes a ≤ takes b := by
  induction h with
  | slnil => exact Nat.le_refl _
  | cons x _ ih => rw [takes_cons]; omega
  | cons_cons x _ ih => rw [takes_cons, takes_cons]; omega
theorem takes_len (s : List Rc) : 8 * s.length ≤ takes s := by
  induction s with
  | nil => simp [takes]
  | cons r s ih => rw [takes_cons, List.length_cons]; omega
theorem takes_form (s : List Rc) : takes s = 8 * s.length + (s.map fun r => r.2.length).sum := by
  induction s with
  | nil => rfl
  | cons r s ih => rw [takes_cons, ih, List.length_cons, List.map_cons, List.sum_cons]; omega

/-! ytabhalajelbfoaa# P52 -/

/-- what is wrong with a record -/
def errR (r : Rc) : Int := if r.1.1 = false then 3 else if 64 < r.2.length then 2 else 0
/-- the first record that is wrong -/
def errRs : List Rc → Int
  | [] => 0
  | r :: s => if errR r ≠ 0 then errR r else errRs s
/-- what is wrong with a segment -/
def errS (s : List Rc) : Int := if s = [] then 3 else if errRs s ≠ 0 then errRs s else if 200 < takes s then 2 else 0
def errSs : List (List Rc) → Int
  | [] => 0
  | s :: l => if errS s ≠ 0 then errS s else errSs l
def chk (l : List (List Rc)) : Int := if 16 < l.length then 2 else errSs l

theorem errR_zero {r : Rc} : errR r = 0 ↔ r.1.1 = true ∧ r.2.length ≤ 64 := by
  unfold errR
  cases h : r.1.1
  · simp
  · by_cases h2 : 64 < r.2.length
    · simp [h2]
    · simp [h2]; omega
theorem errRs_zero : ∀ {s : List Rc}, errRs s = 0 ↔ ∀ r ∈ s, errR r = 0
  | [] => by simp [errRs]
  | r :: s => by
    unfold errRs
    by_cases h : errR r ≠ 0
    · rw [if_pos h]
      exact ⟨fun e => absurd e h, fun k => k r (List.mem_cons_self ..)⟩
    · rw [if_neg h, errRs_zero (s := s)]
      have h' : errR r = 0 := Decidable.not_not.1 h
      simp [h']

/-- a right segment -/
structure Seg (s : List Rc) : Prop where
  ne : s ≠ []
  ok : ∀ r ∈ s, r.1.1 = true ∧ r.2.length ≤ 64
  room : takes s ≤ 200
/-- right segments -/
structure Right (l : List (List Rc)) : Prop where
  len : l.length ≤ 16
  seg : ∀ s ∈ l, Seg s

theorem errS_zero {s : List Rc} : errS s = 0 ↔ Seg s := by
  unfold errS
  by_cases h : s = []
  · rw [if_pos h]
    exact ⟨fun e => absurd e (by decide), fun k => absurd h k.ne⟩
  rw [if_neg h]
  by_cases h2 : errRs s ≠ 0
  · rw [if_pos h2]
    exact ⟨fun e => absurd e h2, fun k => absurd (errRs_zero.2 fun r hr => errR_zero.2 (k.ok r hr)) h2⟩
  rw [if_neg h2]
  have h2' : errRs s = 0 := Decidable.not_not.1 h2
  by_cases h3 : 200 < takes s
  · rw [if_pos h3]
    exact ⟨fun e => absurd e (by decide), fun k => absurd k.room (by omega)⟩
  rw [if_neg h3]
  exact ⟨fun _ => ⟨h, fun r hr => errR_zero.1 (errRs_zero.1 h2' r hr), by omega⟩, fun _ => rfl⟩
theorem errSs_zero : ∀ {l : List (List Rc)}, errSs l = 0 ↔ ∀ s ∈ l, Seg s
  | [] => by simp [errSs]
  | s :: l => by
    unfold errSs
    by_cases h : errS s ≠ 0
    · rw [if_pos h]
      exact ⟨fun e => absurd e h, fun k => absurd (errS_zero.2 (k s (List.mem_cons_self ..))) h⟩
    · rw [if_neg h, errSs_zero (l := l)]
      have h' : errS s = 0 := Decidable.not_not.1 h
      simp [errS_zero.1 h']
theorem chk_zero {l : List (List Rc)} : chk l = 0 ↔ Right l := by
  unfold chk
  by_cases h : 16 < l.length
  · rw [if_pos h]
    exact ⟨fun e => absurd e (by decide), fun k => absurd k.len (by omega)⟩
  · rw [if_neg h, errSs_zero]
    exact ⟨fun k => ⟨by omega, k⟩, fun k => k.seg⟩

theorem errR_range (r : Rc) : errR r = 0 ∨ errR r = 2 ∨ errR r = 3 := by
  unfold errR
  split
  · exact .inr (.inr rfl)
  · split
    · exact .inr (.inl rfl)
    · exact .inl rfl
theorem errRs_range (s : List Rc) : errRs s = 0 ∨ errRs s = 2 ∨ errRs s = 3 := by
  induction s with
  | nil => exact .inl rfl
  | cons r s ih =>
    unfold errRs
    split
    · exact errR_range r
    · exact ih
theorem errS_range (s : List Rc) : errS s = 0 ∨ errS s = 2 ∨ errS s = 3 := by
  unfold errS
  split
  · exact .inr (.inr rfl)
  · split
    · exact errRs_range s
    · split
      · exact .inr (.inl rfl)
      · exact .inl rfl
theorem errSs_range (l : List (List Rc)) : errSs l = 0 ∨ errSs l = 2 ∨ errSs l = 3 := by
  induction l with
  | nil => exact .inl rfl
  | cons s l ih =>
    unfold errSs
    split
    · exact errS_range s
    · exact ih
theorem chk_range (l : List (List Rc)) : chk l = 0 ∨ chk l = 2 ∨ chk l = 3 := by
  unfold chk
  split
  · exact .inr (.inl rfl)
  · exact errSs_range l

theorem Right.nil : Right [] := ⟨by simp, by simp⟩
theorem Right.one {r : Rc} (h : errR r = 0) : Right [[r]] := by
  obtain ⟨h1, h2⟩ := errR_zero.1 h
  exact ⟨by simp, fun s hs => by
    rw [List.mem_singleton] at hs
    subst hs
    exact ⟨by simp, fun x hx => by rw [List.mem_singleton] at hx; subst hx; exact ⟨h1, h2⟩, by rw [takes_cons, takes_nil]; omega⟩⟩

/-! ytabhalajelbfoaa# P53 -/

def put1 (l : List (List Rc)) (r : Rc) : List (List Rc) :=
  match l.getLast? with
  | none => l ++ [[r]]
  | some s => if takes (s ++ [r]) ≤ 200 then l.dropLast ++ [s ++ [r]] else l ++ [[r]]
def stand (l : List (List Rc)) (rs : List Rc) : List (List Rc) := rs.foldl put1 l
def put (l : List (List Rc)) (r : Rc) : List (List Rc) × Int :=
  if chk l ≠ 0 then ([], chk l) else if errR r ≠ 0 then ([], errR r) else if 16 < (put1 l r).length then ([], 8) else (put1 l r, 0)

theorem put1_cases (l : List (List Rc)) (r : Rc) : put1 l r = l ++ [[r]] ∨ ∃ h : l ≠ [], takes (l.getLast h ++ [r]) ≤ 200 ∧ put1 l r = l.dropLast ++ [l.getLast h ++ [r]] := by
  unfold put1
  by_cases h : l = []
  · subst h; exact .inl rfl
  · rw [List.getLast?_eq_some_getLast h]
    simp only
    by_cases h2 : takes (l.getLast h ++ [r]) ≤ 200
    · rw [if_pos h2]; exact .inr ⟨h, h2, rfl⟩
    · rw [if_neg h2]; exact .inl rfl
theorem put1_flatten (l : List (List Rc)) (r : Rc) : (put1 l r).flatten = l.flatten ++ [r] := by
  rcases put1_cases l r with e | ⟨h, _, e⟩
  · rw [e, List.flatten_append]; simp
  · rw [e, List.flatten_append]
    conv => rhs; rw [← List.dropLast_concat_getLast h, List.flatten_append]
    simp
theorem put1_length (l : List (List Rc)) (r : Rc) : l.length ≤ (put1 l r).length ∧ (put1 l r).length ≤ l.length + 1 := by
  rcases put1_cases l r with e | ⟨h, _, e⟩
  · rw [e]; simp
  · rw [e]
    have := List.length_pos_iff.2 h
    simp
    omega
theorem put1_seg {l : List (List Rc)} {r : Rc} (h : ∀ s ∈ l, Seg s) (hr : errR r = 0) : ∀ s ∈ put1 l r, Seg s := by
  obtain ⟨h1, h2⟩ := errR_zero.1 hr
  rcases put1_cases l r with e | ⟨hn, h3, e⟩
  · rw [e]
    intro s hs
    rcases List.mem_append.1 hs with hs | hs
    · exact h s hs
    · exact (Right.one hr).seg s hs
  · rw [e]
    intro s hs
    rcases List.mem_append.1 hs with hs | hs
    · exact h s (List.dropLast_subset _ hs)
    · rw [List.mem_singleton] at hs
      subst hs
      have hg := h _ (List.getLast_mem hn)
      refine ⟨by simp, fun x hx => ?_, h3⟩
      rcases List.mem_append.1 hx with hx | hx
      · exact hg.ok x hx
      · rw [List.mem_singleton] at hx; subst hx; exact ⟨h1, h2⟩

theorem put_ok {l m : List (List Rc)} {r : Rc} (h : put l r = (m, 0)) : Right l ∧ errR r = 0 ∧ m = put1 l r ∧ Right m := by
  unfold put at h
  by_cases h1 : chk l ≠ 0
  · rw [if_pos h1] at h
    exact absurd (congrArg Prod.snd h) h1
  rw [if_neg h1] at h
  by_cases h2 : errR r ≠ 0
  · rw [if_pos h2] at h
    exact absurd (congrArg Prod.snd h) h2
  rw [if_neg h2] at h
  have h1' := chk_zero.1 (Decidable.not_not.1 h1)
  have h2' : errR r = 0 := Decidable.not_not.1 h2
  by_cases h3 : 16 < (put1 l r).length
  · rw [if_pos h3] at h
    cases congrArg Prod.snd h
  rw [if_neg h3] at h
  have e : put1 l r = m := congrArg Prod.fst h
  subst e
  exact ⟨h1', h2', rfl, ⟨by omega, put1_seg h1'.seg h2'⟩⟩
theorem put_err {l : List (List Rc)} {r : Rc} (h : (put l r).2 ≠ 0) : (put l r).1 = [] := by
  unfold put at h ⊢
  split
  · rfl
  · split
    · rfl
    · split
      · rfl
      · rename_i h1 h2 h3
        rw [if_neg h1, if_neg h2, if_neg h3] at h
        exact absurd rfl h
/-- a right record behind right segments: it is put, or there is no room -/
theorem put_right {l : List (List Rc)} {r : Rc} (hl : Right l) (hr : errR r = 0) : put l r = if 16 < (put1 l r).length then ([], 8) else (put1 l r, 0) := by
  unfold put
  rw [if_neg (by rw [chk_zero.2 hl]; simp), if_neg (by rw [hr]; simp)]

theorem stand_nil (l : List (List Rc)) : stand l [] = l := rfl
theorem stand_cons (l : List (List Rc)) (r : Rc) (rs : List Rc) : stand l (r :: rs) = stand (put1 l r) rs := rfl
theorem stand_append (l : List (List Rc)) (a b : List Rc) : stand l (a ++ b) = stand (stand l a) b := by unfold stand; rw [List.foldl_append]
theorem stand_flatten (l : List (List Rc)) (rs : List Rc) : (stand l rs).flatten = l.flatten ++ rs := by
  induction rs generalizing l with
  | nil => simp [stand]
  | cons r rs ih => rw [stand_cons, ih, put1_flatten]; simp
theorem stand_seg {l : List (List Rc)} {rs : List Rc} (h : ∀ s ∈ l, Seg s) (hr : ∀ r ∈ rs, errR r = 0) : ∀ s ∈ stand l rs, Seg s := by
  induction rs generalizing l with
  | nil => exact h
  | cons r rs ih =>
    rw [stand_cons]
    exact ih (put1_seg h (hr r (List.mem_cons_self ..))) fun x hx => hr x (List.mem_cons_of_mem _ hx)
theorem stand_len_le (l : List (List Rc)) (rs : List Rc) : l.length ≤ (stand l rs).length := by
  induction rs generalizing l with
  | nil => exact Nat.le_refl _
  | cons r rs ih => rw [stand_cons]; exact Nat.le_trans (put1_length l r).1 (ih _)

/-- once a segment is open, all that has room in it goes there -/
theorem stand_open {l : List (List Rc)} {s rs : List Rc} (h : takes (s ++ rs) ≤ 200) : stand (l ++ [s]) rs = l ++ [s ++ rs] := by
  induction rs generalizing s with
  | nil => simp [stand]
  | cons r rs ih =>
    rw [stand_cons]
    have h1 : put1 (l ++ [s]) r = l ++ [s ++ [r]] := by
      unfold put1
      rw [List.getLast?_append]
      simp only [List.getLast?_singleton, Option.some_or]
      have : takes (s ++ [r]) ≤ 200 := by
        rw [takes_append] at h ⊢
        rw [takes_cons] at h
        rw [takes_cons, takes_nil]
        omega
      rw [if_pos this]
      simp
    rw [h1, ih (by rw [List.append_assoc]; exact h)]
    simp
/-- records that have room in one segment want one more at most -/
theorem stand_len {l : List (List Rc)} {rs : List Rc} (h : takes rs ≤ 200) : (stand l rs).length ≤ l.length + 1 := by
  induction rs generalizing l with
  | nil => rw [stand_nil]; omega
  | cons r rs ih =>
    rw [stand_cons]
    rw [takes_cons] at h
    rcases put1_cases l r with e | ⟨hn, _, e⟩
    · rw [e, stand_open (by rw [takes_append, takes_cons, takes_nil]; omega)]
      simp
    · have h2 := ih (l := put1 l r) (by omega)
      have h3 : (put1 l r).length = l.length := by
        rw [e]
        have := List.length_pos_iff.2 hn
        simp
        omega
      omega

/-! ytabhalajelbfoaa# P54 -/

/-- has the bag an item with its identifier and its text? -/
def used (b : List Itm) (r : Rc) : Bool := b.any fun x => decide (rcOf x = r)

theorem used_iff {b : List Itm} {r : Rc} : used b r = true ↔ ∃ x ∈ b, rcOf x = r := by
  unfold used
  rw [List.any_eq_true]
  simp

/-- of a segment, what is live: what stands behind it is given -/
def aliveS (b : List Itm) : List Rc → List Rc → List Rc
  | [], _ => []
  | r :: s, later => if used b r = true ∧ r ∉ s ∧ r ∉ later then r :: aliveS b s later else aliveS b s later
def alive (b : List Itm) : List (List Rc) → List (List Rc)
  | [] => []
  | s :: l => aliveS b s l.flatten :: alive b l

theorem alive_length (b : List Itm) (l : List (List Rc)) : (alive b l).length = l.length := by
  induction l with
  | nil => rfl
  | cons s l ih => unfold alive; rw [List.length_cons, ih, List.length_cons]

theorem aliveS_sub (b : List Itm) (s later : List Rc) : (aliveS b s later).Sublist s := by
  induction s with
  | nil => exact List.Sublist.slnil
  | cons r s ih =>
    unfold aliveS
    split
    · exact ih.cons_cons r
    · exact ih.cons r

theorem aliveS_mem {b : List Itm} {s later : List Rc} {r : Rc} : r ∈ aliveS b s later ↔ used b r = true ∧ r ∈ s ∧ r ∉ later := by
  induction s with
  | nil => simp [aliveS]
  | cons x s ih =>
    unfold aliveS
    by_cases hx : used b x = true ∧ x ∉ s ∧ x ∉ later
    · rw [if_pos hx, List.mem_cons, ih, List.mem_cons]
      constructor
      · rintro (rfl | ⟨h1, h2, h3⟩)
        · exact ⟨hx.1, .inl rfl, hx.2.2⟩
        · exact ⟨h1, .inr h2, h3⟩
      · rintro ⟨h1, (rfl | h2), h3⟩
        · exact .inl rfl
        · exact .inr ⟨h1, h2, h3⟩
    · rw [if_neg hx, ih, List.mem_cons]
      constructor
      · rintro ⟨h1, h2, h3⟩
        exact ⟨h1, .inr h2, h3⟩
      · rintro ⟨h1, (rfl | h2), h3⟩
        · refine ⟨h1, ?_, h3⟩
          by_cases hs : r ∈ s
          · exact hs
          · exact absurd ⟨h1, hs, h3⟩ hx
        · exact ⟨h1, h2, h3⟩

theorem aliveS_nodup (b : List Itm) (s later : List Rc) : (aliveS b s later).Nodup := by
  induction s with
  | nil => exact List.Pairwise.nil
  | cons x s ih =>
    unfold aliveS
    split
    · rename_i hx
      exact List.nodup_cons.2 ⟨fun h => hx.2.1 (aliveS_mem.1 h).2.1, ih⟩
    · exact ih

theorem alive_mem {b : List Itm} {l : List (List Rc)} {r : Rc} : r ∈ (alive b l).flatten ↔ used b r = true ∧ r ∈ l.flatten := by
  induction l with
  | nil => simp [alive]
  | cons s l ih =>
    unfold alive
    rw [List.flatten_cons, List.mem_append, aliveS_mem, ih, List.flatten_cons, List.mem_append]
    constructor
    · rintro (⟨h1, h2, _⟩ | ⟨h1, h2⟩)
      · exact ⟨h1, .inl h2⟩
      · exact ⟨h1, .inr h2⟩
    · rintro ⟨h1, h2⟩
      by_cases hl : r ∈ l.flatten
      · exact .inr ⟨h1, hl⟩
      · exact .inl ⟨h1, h2.resolve_right hl, hl⟩

theorem alive_nodup (b : List Itm) (l : List (List Rc)) : (alive b l).flatten.Nodup := by
  induction l with
  | nil => exact List.Pairwise.nil
  | cons s l ih =>
    unfold alive
    rw [List.flatten_cons, List.nodup_append]
    refine ⟨aliveS_nodup _ _ _, ih, fun x hx y hy e => ?_⟩
    subst e
    exact (aliveS_mem.1 hx).2.2 (alive_mem.1 hy).2

theorem alive_get {b : List Itm} {l : List (List Rc)} {k : Nat} (hk : k < l.length) : (alive b l)[k]'(by rw [alive_length]; exact hk) = aliveS b l[k] (l.drop (k + 1)).flatten := by
  induction l generalizing k with
  | nil => simp at hk
  | cons s l ih =>
    cases k with
    | zero => rfl
    | succ k => exact ih (by simpa using hk)

theorem alive_empty (l : List (List Rc)) : ∀ s ∈ alive [] l, s = [] := by
  intro s hs
  rw [List.eq_nil_iff_forall_not_mem]
  intro r hr
  have h := (alive_mem (b := []) (l := l) (r := r)).1 (List.mem_flatten.2 ⟨s, hs, hr⟩)
  cases h.1

variable {F : List UInt8 → Int}

/-- the used records that stand somewhere, by the bag's own order -/
def held (b : List Itm) (l : List (List Rc)) : List Rc := (b.map rcOf).filter fun r => l.flatten.contains r

theorem rc_eq {x y : Itm} (h : rcOf x = rcOf y) : idOf x = idOf y ∧ x.t = y.t := ⟨congrArg Prod.fst h, congrArg Prod.snd h⟩

theorem rcs_nodup {b : List Itm} (hb : Bag F b) : (b.map rcOf).Nodup := by
  refine List.pairwise_map.2 ?_
  refine hb.txt.imp ?_
  intro x y h e
  exact h (rc_eq e).2

theorem held_mem {b : List Itm} {l : List (List Rc)} {r : Rc} : r ∈ held b l ↔ used b r = true ∧ r ∈ l.flatten := by
  unfold held
  rw [List.mem_filter, List.mem_map, used_iff]
  simp

theorem alive_perm {b : List Itm} (hb : Bag F b) (l : List (List Rc)) : (alive b l).flatten.Perm (held b l) := by
  refine (List.perm_ext_iff_of_nodup (alive_nodup b l) ((rcs_nodup hb).filter _)).2 fun r => ?_
  show r ∈ (alive b l).flatten ↔ r ∈ held b l
  rw [alive_mem, held_mem]

/-- by sum, then by number -/
def behR (a x : Rc) : Prop := a.1.2.1 < x.1.2.1 ∨ (x.1.2.1 = a.1.2.1 ∧ a.1.2.2 < x.1.2.2)

/-- what is live, sorted by sum and number, in whatever way: the used records that stand somewhere -/
theorem sorted_held {b : List Itm} (hb : Bag F b) {l : List (List Rc)} {d : List Rc} (hp : d.Perm (alive b l).flatten) (hs : d.Pairwise fun a x => ¬ behR x a) : d = held b l := by
  have hpp := hp.trans (alive_perm hb l)
  refine List.Perm.eq_of_pairwise (le := fun a x => ¬ behR x a) ?_ hs ?_ hpp
  · intro a x ha hx h1 h2
    obtain ⟨y, hy, rfl⟩ := used_iff.1 (held_mem.1 (hpp.subset ha)).1
    obtain ⟨z, hz, rfl⟩ := used_iff.1 (held_mem.1 hx).1
    have e : y = z := by
      refine hb.id_mem hy hz (id_eq.2 ?_)
      unfold behR rcOf idOf at h1 h2
      simp only at h1 h2
      omega
    rw [e]
  · unfold held
    refine List.Pairwise.filter _ (List.pairwise_map.2 (hb.beh.imp ?_))
    intro x y h h2
    unfold behR rcOf idOf at h2
    simp only at h2
    unfold Beh at h
    omega

/-- how many bytes are live in all -/
theorem live_sum (b : List Itm) (l : List (List Rc)) : ((alive b l).map takes).sum = takes (alive b l).flatten := by
  generalize alive b l = L
  induction L with
  | nil => rfl
  | cons s L ih => rw [List.map_cons, List.sum_cons, List.flatten_cons, takes_append, ih]
theorem takes_flatten (l : List (List Rc)) : (l.map takes).sum = takes l.flatten := by
  induction l with
  | nil => rfl
  | cons s L ih => rw [List.map_cons, List.sum_cons, List.flatten_cons, takes_append, ih]

/-- the same used records: the same is live -/
theorem live_same {b : List Itm} (hb : Bag F b) {l m : List (List Rc)} (h : held b l = held b m) : takes (alive b l).flatten = takes (alive b m).flatten := by
  rw [takes_perm (alive_perm hb l), takes_perm (alive_perm hb m), h]

theorem held_same {b : List Itm} {l m : List (List Rc)} (h : ∀ r, used b r = true → (r ∈ l.flatten ↔ r ∈ m.flatten)) : held b l = held b m := by
  unfold held
  refine List.filter_congr fun r hr => ?_
  obtain ⟨x, hx, e⟩ := List.mem_map.1 hr
  have h2 := h r (used_iff.2 ⟨x, hx, e⟩)
  rw [Bool.eq_iff_iff, List.contains_iff_mem, List.contains_iff_mem]
  exact h2

/-- what is put behind: it is live, and nothing else is another -/
theorem held_put {b : List Itm} {l m : List (List Rc)} {r : Rc} (h : m.flatten = l.flatten ++ [r]) : (held b l).filter (fun x => !decide (x = r)) = (held b m).filter (fun x => !decide (x = r)) := by
  unfold held
  rw [List.filter_filter, List.filter_filter]
  refine List.filter_congr fun x _ => ?_
  rw [h]
  by_cases e : x = r
  · simp [e]
  · simp [e]

/-! ytabhalajelbfoaa# P54, P55 -/

def live (F : List UInt8 → Int) (l : List (List Rc)) (b : List Itm) : List Nat × Int :=
  if chk l ≠ 0 then ([], chk l) else if WoolBag.chk F b ≠ 0 then ([], WoolBag.chk F b) else ((alive b l).map takes, 0)

/-- the first place of the least number -/
def least : List Nat → Nat
  | [] => 0
  | [_] => 0
  | x :: y :: l => if x ≤ (y :: l)[least (y :: l)]?.getD 0 then 0 else least (y :: l) + 1

theorem least_spec : ∀ {l : List Nat}, l ≠ [] → ∃ h : least l < l.length, (∀ j (hj : j < l.length), l[least l] ≤ l[j]) ∧ ∀ j (hj : j < least l), l[least l] < l[j]'(by omega)
  | [], h => absurd rfl h
  | [x], _ => ⟨by simp [least], fun j hj => by
      have : j = 0 := by simpa using hj
      subst this
      exact Nat.le_refl _, fun j hj => by simp [least] at hj⟩
  | x :: y :: l, _ => by
    obtain ⟨h1, h2, h3⟩ := least_spec (l := y :: l) (by simp)
    have hg : (y :: l)[least (y :: l)]?.getD 0 = (y :: l)[least (y :: l)] := by rw [List.getElem?_eq_getElem h1]; rfl
    by_cases hx : x ≤ (y :: l)[least (y :: l)]
    · have e : least (x :: y :: l) = 0 := by
        show (if _ then _ else _) = _
        rw [hg, if_pos hx]
      refine ⟨by rw [e]; simp, fun j hj => ?_, fun j hj => by rw [e] at hj; omega⟩
      have e2 : (x :: y :: l)[least (x :: y :: l)]'(by rw [e]; simp) = x := by simp [e]
      rw [e2]
      cases j with
      | zero => exact Nat.le_refl _
      | succ j => exact Nat.le_trans hx (h2 j (by simpa using hj))
    · have e : least (x :: y :: l) = least (y :: l) + 1 := by
        show (if _ then _ else _) = _
        rw [hg, if_neg hx]
      have hlt : least (x :: y :: l) < (x :: y :: l).length := by rw [e]; simpa using h1
      have e2 : (x :: y :: l)[least (x :: y :: l)] = (y :: l)[least (y :: l)] := by simp [e]
      refine ⟨hlt, fun j hj => ?_, fun j hj => ?_⟩
      · rw [e2]
        cases j with
        | zero => exact Nat.le_of_lt (Nat.lt_of_not_le hx)
        | succ j => exact h2 j (by simpa using hj)
      · rw [e2]
        cases j with
        | zero => exact Nat.lt_of_not_le hx
        | succ j => exact h3 j (by omega)

/-- the segment that is cleaned -/
def best (b : List Itm) (l : List (List Rc)) : Nat := least ((alive b l).map takes)

theorem best_lt {b : List Itm} {l : List (List Rc)} (h : l ≠ []) : best b l < l.length := by
  have h1 : (alive b l).map takes ≠ [] := by
    intro e
    have := congrArg List.length e
    rw [List.length_map, alive_length] at this
    exact h (List.eq_nil_of_length_eq_zero this)
  obtain ⟨h2, _⟩ := least_spec h1
  rw [List.length_map, alive_length] at h2
  exact h2

def cleaned (b : List Itm) (l : List (List Rc)) : List (List Rc) := stand (l.eraseIdx (best b l)) ((alive b l)[best b l]?.getD [])

def clean (F : List UInt8 → Int) (l : List (List Rc)) (b : List Itm) : List (List Rc) × Int :=
  if chk l ≠ 0 then ([], chk l) else if WoolBag.chk F b ≠ 0 then ([], WoolBag.chk F b) else if l = [] then ([], 4) else (cleaned b l, 0)

theorem clean_err {l : List (List Rc)} {b : List Itm} (h : (clean F l b).2 ≠ 0) : (clean F l b).1 = [] := by
  unfold clean at h ⊢
  split
  · rfl
  · split
    · rfl
    · split
      · rfl
      · rename_i h1 h2 h3
        rw [if_neg h1, if_neg h2, if_neg h3] at h
        exact absurd rfl h
theorem live_err {l : List (List Rc)} {b : List Itm} (h : (live F l b).2 ≠ 0) : (live F l b).1 = [] := by
  unfold live at h ⊢
  split
  · rfl
  · split
    · rfl
    · rename_i h1 h2
      rw [if_neg h1, if_neg h2] at h
      exact absurd rfl h
theorem live_ok {l : List (List Rc)} {b : List Itm} (hl : Right l) (hb : Bag F b) : live F l b = ((alive b l).map takes, 0) := by
  unfold live
  rw [if_neg (by rw [chk_zero.2 hl]; simp), if_neg (by rw [(WoolBag.chk_zero F).2 hb]; simp)]
theorem clean_ok {l : List (List Rc)} {b : List Itm} (hl : Right l) (hb : Bag F b) (hn : l ≠ []) : clean F l b = (cleaned b l, 0) := by
  unfold clean
  rw [if_neg (by rw [chk_zero.2 hl]; simp), if_neg (by rw [(WoolBag.chk_zero F).2 hb]; simp), if_neg hn]
theorem clean_none {b : List Itm} (hb : Bag F b) : clean F [] b = ([], 4) := by
  unfold clean
  rw [if_neg (by rw [chk_zero.2 Right.nil]; simp), if_neg (by rw [(WoolBag.chk_zero F).2 hb]; simp), if_pos rfl]
theorem clean_bad {l : List (List Rc)} {b : List Itm} (hl : Right l) (hb : ¬ Bag F b) : clean F l b = ([], WoolBag.chk F b) ∧ WoolBag.chk F b ≠ 0 := by
  have h : WoolBag.chk F b ≠ 0 := fun e => hb ((WoolBag.chk_zero F).1 e)
  unfold clean
  rw [if_neg (by rw [chk_zero.2 hl]; simp), if_pos h]
  exact ⟨rfl, h⟩
theorem live_bad {l : List (List Rc)} {b : List Itm} (hl : Right l) (hb : ¬ Bag F b) : live F l b = ([], WoolBag.chk F b) ∧ WoolBag.chk F b ≠ 0 := by
  have h : WoolBag.chk F b ≠ 0 := fun e => hb ((WoolBag.chk_zero F).1 e)
  unfold live
  rw [if_neg (by rw [chk_zero.2 hl]; simp), if_pos h]
  exact ⟨rfl, h⟩

theorem best_alive {b : List Itm} {l : List (List Rc)} (hn : l ≠ []) : (alive b l)[best b l]?.getD [] = aliveS b (l[best b l]'(best_lt hn)) (l.drop (best b l + 1)).flatten := by
  have h := best_lt (b := b) hn
  rw [List.getElem?_eq_getElem (by rw [alive_length]; exact h), Option.getD_some, alive_get h]

theorem erase_split (l : List (List Rc)) (k : Nat) : (l.eraseIdx k).flatten = (l.take k).flatten ++ (l.drop (k + 1)).flatten := by
  rw [List.eraseIdx_eq_take_drop_succ, List.flatten_append]
theorem flat_split {l : List (List Rc)} {k : Nat} (hk : k < l.length) : l.flatten = (l.take k).flatten ++ (l[k] ++ (l.drop (k + 1)).flatten) := by
  conv => lhs; rw [← List.take_append_drop k l, List.drop_eq_getElem_cons hk]
  rw [List.flatten_append, List.flatten_cons]

/-- what is cleaned keeps all that is used -/
theorem cleaned_mem {b : List Itm} {l : List (List Rc)} (hn : l ≠ []) {r : Rc} (hu : used b r = true) : r ∈ (cleaned b l).flatten ↔ r ∈ l.flatten := by
  have h := best_lt (b := b) hn
  unfold cleaned
  rw [stand_flatten, best_alive hn, erase_split, flat_split h]
  simp only [List.mem_append, aliveS_mem]
  constructor
  · rintro ((h1 | h1) | h1)
    · exact .inl h1
    · exact .inr (.inr h1)
    · exact .inr (.inl h1.2.1)
  · rintro (h1 | h1 | h1)
    · exact .inl (.inl h1)
    · by_cases h2 : r ∈ (l.drop (best b l + 1)).flatten
      · exact .inl (.inr h2)
      · exact .inr ⟨hu, h1, h2⟩
    · exact .inl (.inr h1)

theorem cleaned_held {b : List Itm} {l : List (List Rc)} (hn : l ≠ []) : held b (cleaned b l) = held b l := held_same fun _ hu => cleaned_mem hn hu

/-- and takes no more bytes -/
theorem cleaned_takes {b : List Itm} {l : List (List Rc)} (hn : l ≠ []) : takes (cleaned b l).flatten ≤ takes l.flatten := by
  have h := best_lt (b := b) hn
  unfold cleaned
  rw [stand_flatten, best_alive hn, erase_split, flat_split h, takes_append, takes_append, takes_append, takes_append]
  have := takes_sublist (aliveS_sub b l[best b l] (l.drop (best b l + 1)).flatten)
  omega

/-- and no more segments, and is right -/
theorem cleaned_right {b : List Itm} {l : List (List Rc)} (hl : Right l) (hn : l ≠ []) : Right (cleaned b l) ∧ (cleaned b l).length ≤ l.length := by
  have h := best_lt (b := b) hn
  have hs := hl.seg _ (List.getElem_mem h)
  have hsub := aliveS_sub b l[best b l] (l.drop (best b l + 1)).flatten
  have h1 : (cleaned b l).length ≤ l.length := by
    unfold cleaned
    rw [best_alive hn]
    have h2 := stand_len (l := l.eraseIdx (best b l)) (rs := aliveS b l[best b l] (l.drop (best b l + 1)).flatten) (Nat.le_trans (takes_sublist hsub) hs.room)
    rw [List.length_eraseIdx_of_lt h] at h2
    omega
  refine ⟨⟨Nat.le_trans h1 hl.len, ?_⟩, h1⟩
  unfold cleaned
  rw [best_alive hn]
  refine stand_seg (fun s hs => hl.seg s (List.mem_of_mem_eraseIdx hs)) fun r hr => errR_zero.2 (hs.ok r (hsub.subset hr))

/-- where nothing is used, the first goes, and nothing is put behind -/
theorem cleaned_bare {l : List (List Rc)} (hn : l ≠ []) : cleaned [] l = l.tail := by
  have hk : best [] l = 0 := by
    have h1 : (alive [] l).map takes = List.replicate l.length 0 := by
      rw [List.eq_replicate_iff]
      refine ⟨by rw [List.length_map, alive_length], fun n hn => ?_⟩
      obtain ⟨s, hs, rfl⟩ := List.mem_map.1 hn
      rw [alive_empty l s hs]
      rfl
    unfold best
    rw [h1]
    cases hl : l.length with
    | zero => rfl
    | succ n =>
      obtain ⟨h2, _, h4⟩ := least_spec (l := List.replicate (n + 1) 0) (by simp)
      by_cases h5 : least (List.replicate (n + 1) 0) = 0
      · exact h5
      · have h6 := h4 0 (by omega)
        simp at h6
  have he : (alive [] l)[best [] l]?.getD [] = [] := by
    rw [best_alive hn]
    rw [List.eq_nil_iff_forall_not_mem]
    intro r hr
    cases (aliveS_mem.1 hr).1
  unfold cleaned
  rw [he, stand_nil, hk]
  cases l with
  | nil => rfl
  | cons s l => rfl

end WoolSeg
