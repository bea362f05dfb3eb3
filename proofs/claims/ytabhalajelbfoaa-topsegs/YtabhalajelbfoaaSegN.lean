/-
  Blocks that are put into a bag and into segments, dropped and cleaned: each that is used stands in a segment. Conditions: as each says.
-/
import Derived.Test.YtabhalajelbfoaaSegM
namespace WoolSeg
open WoolBag

variable {F : List UInt8 → Int}

/-- a bag, its records in segments, and the identifiers that were handed out, one a reference -/
structure Kept (F : List UInt8 → Int) (b : List Itm) (l : List (List Rc)) (ids : List (Bool × Int × Int)) : Prop where
  bag : Bag F b
  right : Right l
  cnt : ∀ x ∈ b, x.r = (ids.count (idOf x) : Int)
  here : ∀ i ∈ ids, ∃ x ∈ b, idOf x = i
  has : ∀ x ∈ b, rcOf x ∈ l.flatten

theorem Kept.nil : Kept F [] [] [] := ⟨Bag.nil, Right.nil, fun _ h => absurd h (by simp), fun _ h => absurd h (by simp), fun _ h => absurd h (by simp)⟩

theorem more_rc (x : Itm) (d : Int) : rcOf (more x d) = rcOf x := rfl
theorem more_id (x : Itm) (d : Int) : idOf (more x d) = idOf x := rfl

/-- what stands in a list in which one item was set -/
theorem mem_set_more {b : List Itm} {k : Nat} (hk : k < b.length) {d : Int} {x : Itm} (h : x ∈ b.set k (more b[k] d)) : x = more b[k] d ∨ ∃ j, ∃ hj : j < b.length, j ≠ k ∧ x = b[j] := by
  obtain ⟨j, hj, rfl⟩ := List.getElem_of_mem h
  rw [List.length_set] at hj
  rw [get_set hj]
  by_cases e : k = j
  · rw [if_pos e]; exact .inl rfl
  · rw [if_neg e]; exact .inr ⟨j, hj, fun h => e h.symm, rfl⟩

theorem Kept.put {b B : List Itm} {l m : List (List Rc)} {ids : List (Bool × Int × Int)} {t : List UInt8} {i : Bool × Int × Int} (h : Kept F b l ids) (hp : WoolBag.put F b t = (B, i, 0)) (hs : WoolSeg.put l (i, t) = (m, 0)) : Kept F B m (ids ++ [i]) := by
  obtain ⟨_, _, hm, hr⟩ := put_ok hs
  have hf : m.flatten = l.flatten ++ [(i, t)] := by rw [hm]; exact put1_flatten l _
  have hB := (put_spec hp).1
  obtain ⟨hb, _, ⟨k, hk, hkt, _, rfl, rfl⟩ | ⟨hn, _, rfl, rfl⟩⟩ := WoolBag.put_ok hp
  · refine ⟨hB, hr, fun x hx => ?_, fun j hj => ?_, fun x hx => ?_⟩
    · rw [List.count_append, List.count_singleton]
      rcases mem_set_more hk hx with rfl | ⟨j, hj, hne, rfl⟩
      · rw [more_id, if_pos (by simp)]
        show b[k].r + 1 = _
        rw [h.cnt _ (List.getElem_mem hk)]
        omega
      · have : ¬ (idOf b[k] == idOf b[j]) = true := by
          rw [beq_iff_eq]
          exact fun e => hne (hb.id_inj hk hj e).symm
        rw [if_neg this, h.cnt _ (List.getElem_mem hj)]
        omega
    · have key : ∀ y ∈ b, ∃ x ∈ b.set k (more b[k] 1), idOf x = idOf y := by
        intro y hy
        obtain ⟨j, hj, rfl⟩ := List.getElem_of_mem hy
        refine ⟨_, List.getElem_mem (by rw [List.length_set]; exact hj), ?_⟩
        rw [get_set hj]
        by_cases e : k = j
        · subst e; rw [if_pos rfl]; rfl
        · rw [if_neg e]
      rcases List.mem_append.1 hj with hj | hj
      · obtain ⟨y, hy, rfl⟩ := h.here j hj
        exact key y hy
      · rw [List.mem_singleton] at hj
        subst hj
        exact key _ (List.getElem_mem hk)
    · rw [hf]
      rcases mem_set_more hk hx with rfl | ⟨j, hj, _, rfl⟩
      · rw [more_rc]
        exact List.mem_append_left _ (h.has _ (List.getElem_mem hk))
      · exact List.mem_append_left _ (h.has _ (List.getElem_mem hj))
  · have hnew : idOf (new F b t) ∉ ids := by
      intro hi
      obtain ⟨y, hy, e⟩ := h.here _ hi
      exact new_id b t y hy (id_eq.1 e)
    refine ⟨hB, hr, fun x hx => ?_, fun j hj => ?_, fun x hx => ?_⟩
    · rw [List.count_append, List.count_singleton]
      rcases mem_ins.1 hx with rfl | hx
      · rw [if_pos (by simp), List.count_eq_zero_of_not_mem hnew]
        rfl
      · have : ¬ (idOf (new F b t) == idOf x) = true := by
          rw [beq_iff_eq]
          exact fun e => new_id b t x hx (id_eq.1 e.symm)
        rw [if_neg this, h.cnt _ hx]
        omega
    · rcases List.mem_append.1 hj with hj | hj
      · obtain ⟨y, hy, rfl⟩ := h.here j hj
        exact ⟨y, mem_ins.2 (.inr hy), rfl⟩
      · rw [List.mem_singleton] at hj
        subst hj
        exact ⟨_, mem_ins.2 (.inl rfl), rfl⟩
    · rw [hf]
      rcases mem_ins.1 hx with rfl | hx
      · exact List.mem_append_right _ (by simp [rcOf, new])
      · exact List.mem_append_left _ (h.has _ hx)

theorem count_erase {ids : List (Bool × Int × Int)} {k : Nat} (hk : k < ids.length) (i : Bool × Int × Int) : ids.count i = (ids.eraseIdx k).count i + if ids[k] = i then 1 else 0 := by
  have hp : (ids[k] :: ids.eraseIdx k).Perm ids := by
    rw [List.eraseIdx_eq_take_drop_succ]
    refine List.perm_middle.symm.trans ?_
    rw [← List.drop_eq_getElem_cons hk, List.take_append_drop]
  rw [← hp.count_eq i, List.count_cons]
  simp

/-- each identifier that was handed out can be dropped -/
theorem Kept.drop {b : List Itm} {l : List (List Rc)} {ids : List (Bool × Int × Int)} (h : Kept F b l ids) {k : Nat} (hk : k < ids.length) : ∃ B, WoolBag.drop F b ids[k] = (B, 0) ∧ Kept F B l (ids.eraseIdx k) := by
  obtain ⟨x, hx, e⟩ := h.here _ (List.getElem_mem hk)
  obtain ⟨j, hj, rfl⟩ := List.getElem_of_mem hx
  have hd : WoolBag.drop F b ids[k] = (less b j, 0) := by
    unfold WoolBag.drop
    rw [← e, find_mem h.bag hj]
    rfl
  refine ⟨_, hd, ?_⟩
  have hB := drop_bag hd
  have hother : ∀ q (hq : q < b.length), q ≠ j → b[q].r = ((ids.eraseIdx k).count (idOf b[q]) : Int) := by
    intro q hq hne
    have h1 := h.cnt _ (List.getElem_mem hq)
    rw [count_erase hk (idOf b[q]), if_neg (by rw [← e]; exact fun e2 => hne (h.bag.id_inj hj hq e2).symm)] at h1
    omega
  have hself : b[j].r = ((ids.eraseIdx k).count (idOf b[j]) : Int) + 1 := by
    have h1 := h.cnt _ (List.getElem_mem hj)
    rw [count_erase hk (idOf b[j]), if_pos e.symm] at h1
    omega
  unfold less at hd hB ⊢
  rw [getElem!_pos b j hj] at hd hB ⊢
  by_cases h1 : b[j].r = 1
  · rw [if_pos h1] at hB ⊢
    have hsub := List.eraseIdx_sublist b j
    have hmem : ∀ y ∈ b.eraseIdx j, ∃ q, ∃ hq : q < b.length, q ≠ j ∧ y = b[q] := by
      intro y hy
      obtain ⟨q, hqj, hq, hy2⟩ := List.mem_eraseIdx_iff_getElem.1 hy
      exact ⟨q, hqj, hq, hy2.symm⟩
    refine ⟨hB, h.right, fun y hy => ?_, fun i hi => ?_, fun y hy => h.has y (hsub.subset hy)⟩
    · obtain ⟨q, hq, hne, rfl⟩ := hmem y hy
      exact hother q hq hne
    · obtain ⟨y, hy, rfl⟩ := h.here i (List.mem_of_mem_eraseIdx hi)
      obtain ⟨q, hq, rfl⟩ := List.getElem_of_mem hy
      by_cases hne : q = j
      · subst hne
        rw [h1] at hself
        have h0 : (ids.eraseIdx k).count (idOf b[q]) = 0 := by omega
        exact absurd hi (List.count_eq_zero.1 h0)
      · exact ⟨b[q], List.mem_eraseIdx_iff_getElem.2 ⟨q, hq, hne, rfl⟩, rfl⟩
  · rw [if_neg h1] at hB ⊢
    refine ⟨hB, h.right, fun y hy => ?_, fun i hi => ?_, fun y hy => ?_⟩
    · rcases mem_set_more hj hy with rfl | ⟨q, hq, hne, rfl⟩
      · rw [more_id]
        show b[j].r + -1 = _
        rw [hself]
        omega
      · exact hother q hq hne
    · obtain ⟨y, hy, rfl⟩ := h.here i (List.mem_of_mem_eraseIdx hi)
      obtain ⟨q, hq, rfl⟩ := List.getElem_of_mem hy
      refine ⟨_, List.getElem_mem (by rw [List.length_set]; exact hq), ?_⟩
      rw [get_set hq]
      by_cases e2 : j = q
      · subst e2; rw [if_pos rfl]; rfl
      · rw [if_neg e2]
    · rcases mem_set_more hj hy with rfl | ⟨q, hq, _, rfl⟩
      · rw [more_rc]; exact h.has _ (List.getElem_mem hj)
      · exact h.has _ (List.getElem_mem hq)

/-- a bag whose blocks all stand in right segments -/
structure Has (F : List UInt8 → Int) (b : List Itm) (l : List (List Rc)) : Prop where
  bag : Bag F b
  right : Right l
  has : ∀ x ∈ b, rcOf x ∈ l.flatten

theorem Kept.hasAll {b : List Itm} {l : List (List Rc)} {ids : List (Bool × Int × Int)} (h : Kept F b l ids) : Has F b l := ⟨h.bag, h.right, h.has⟩

theorem Has.clean {b : List Itm} {l : List (List Rc)} (h : Has F b l) (hn : l ≠ []) : clean F l b = (cleaned b l, 0) ∧ Has F b (cleaned b l) :=
  ⟨clean_ok h.right h.bag hn, h.bag, (cleaned_right h.right hn).1, fun x hx => (cleaned_mem hn (used_iff.2 ⟨x, hx, rfl⟩)).2 (h.has x hx)⟩

theorem Has.some_seg {b : List Itm} {l : List (List Rc)} (h : Has F b l) {x : Itm} (hx : x ∈ b) : (l.any fun s => s.contains (rcOf x)) = true := by
  rw [List.any_eq_true]
  obtain ⟨s, hs, hr⟩ := List.mem_flatten.1 (h.has x hx)
  exact ⟨s, hs, by rw [List.contains_iff_mem]; exact hr⟩

/-! ytabhalajelbfoaa# records put one by one (the law's 'fits') -/

def fit (l : List (List Rc)) (r : Rc) : List (List Rc) := if (put l r).2 = 0 then (put l r).1 else l
def fits (rs : List Rc) : List (List Rc) := rs.foldl fit []

theorem fit_right {l : List (List Rc)} (h : Right l) (r : Rc) : Right (fit l r) := by
  unfold fit
  by_cases hp : (put l r).2 = 0
  · rw [if_pos hp]
    exact (put_ok (m := (put l r).1) (Prod.ext rfl hp)).2.2.2
  · rw [if_neg hp]; exact h
theorem fits_take (rs : List Rc) {k : Nat} (hk : k < rs.length) : fits (rs.take (k + 1)) = fit (fits (rs.take k)) rs[k] := by
  unfold fits
  rw [List.take_succ_eq_append_getElem hk, List.foldl_append]
  rfl
theorem fits_right (rs : List Rc) : Right (fits rs) := by
  unfold fits
  have : ∀ (rs : List Rc) (l : List (List Rc)), Right l → Right (rs.foldl fit l) := by
    intro rs
    induction rs with
    | nil => exact fun l h => h
    | cons r rs ih => exact fun l h => ih _ (fit_right h r)
  exact this rs [] Right.nil

/-- one record by itself -/
theorem fits_one {r : Rc} (h : errR r = 0) : fits [r] = [[r]] := by
  show fit [] r = _
  unfold fit
  rw [put_right Right.nil h]
  rfl

/-- nothing used: clean upon clean leaves one less each -/
theorem bare_clean {l : List (List Rc)} (h : Right l) (hn : l ≠ []) : clean F l [] = (l.tail, 0) := by
  rw [clean_ok h Bag.nil hn, cleaned_bare hn]
theorem Right.tail {l : List (List Rc)} (h : Right l) : Right l.tail := ⟨by rw [List.length_tail]; have := h.len; omega, fun s hs => h.seg s (List.mem_of_mem_tail hs)⟩

end WoolSeg
