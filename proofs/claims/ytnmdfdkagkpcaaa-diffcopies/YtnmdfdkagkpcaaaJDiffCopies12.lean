/-
  Valid states, in plain words: what Check's zero says. Conditions: as each says.
-/
import Derived.Test.YtnmdfdkagkpcaaaJDiffCopies10
import Derived.Test.YtnmdfdkagkpcaaaJDiffCopies11
namespace WoolVol
open WoolBag

variable {F : List UInt8 → Int}

/-- a valid state -/
structure Good (F : List UInt8 → Int) (st : Sta) : Prop where
  bag : Bag F st.b
  len : st.v.length ≤ 6
  vol : ∀ v ∈ st.v, nameB v.nm = true ∧ v.bl.length ≤ 32 ∧ ∀ i ∈ v.bl, errB st.b i = 0
  ord : st.v.Pairwise (fun a b => slt a.nm b.nm = true)
  refs : ∀ x ∈ st.b, x.r = cnt (ids st.v) (idOf x)

theorem chkV_zero {l : List Itm} {p : List UInt8} {x : Vo} : chkV l p x = 0 ↔ (nameB x.nm = true ∧ x.bl.length ≤ 32 ∧ ∀ i ∈ x.bl, errB l i = 0) ∧ slt p x.nm = true := by
  unfold chkV
  rw [← sle_not]
  cases hn : nameB x.nm with
  | false => simp
  | true =>
    cases hs : sle x.nm p with
    | true => simp
    | false =>
      simp only [Bool.not_true, Bool.or_self, Bool.false_eq_true, if_false, Bool.not_false, and_true, true_and]
      by_cases h2 : 32 < x.bl.length
      · rw [if_pos h2]
        constructor
        · intro h; omega
        · intro h; omega
      · rw [if_neg h2, chkB_zero]
        constructor
        · intro h; exact ⟨by omega, h⟩
        · intro h; exact h.2

theorem chkVs_zero {l : List Itm} : ∀ {vs : List Vo} {p : List UInt8}, chkVs l p vs = 0 ↔ (∀ v ∈ vs, nameB v.nm = true ∧ v.bl.length ≤ 32 ∧ ∀ i ∈ v.bl, errB l i = 0) ∧ (∀ v ∈ vs, slt p v.nm = true) ∧ vs.Pairwise (fun a b => slt a.nm b.nm = true)
  | [], p => by simp [chkVs]
  | v :: r, p => by
    have e : chkVs l p (v :: r) = 0 ↔ chkV l p v = 0 ∧ chkVs l v.nm r = 0 := by
      have e2 : chkVs l p (v :: r) = if chkV l p v = 0 then chkVs l v.nm r else chkV l p v := rfl
      rw [e2]
      by_cases h : chkV l p v = 0
      · rw [if_pos h]; simp [h]
      · rw [if_neg h]; simp [h]
    rw [e, chkV_zero, chkVs_zero (vs := r)]
    constructor
    · rintro ⟨⟨h1, h2⟩, h3, h4, h5⟩
      refine ⟨?_, ?_, List.pairwise_cons.2 ⟨h4, h5⟩⟩
      · intro x hx
        rcases List.mem_cons.1 hx with rfl | hx
        · exact h1
        · exact h3 x hx
      · intro x hx
        rcases List.mem_cons.1 hx with rfl | hx
        · exact h2
        · exact slt_trans h2 (h4 x hx)
    · rintro ⟨h1, h2, h3⟩
      obtain ⟨h4, h5⟩ := List.pairwise_cons.1 h3
      exact ⟨⟨h1 v (by simp), h2 v (by simp)⟩, fun x hx => h1 x (by simp [hx]), h4, h5⟩

theorem slt_nil {s : List UInt8} (h : nameB s = true) : slt [] s = true := by
  cases s with
  | nil => simp [nameB] at h
  | cons a r => rfl

theorem chkS_zero {st : Sta} : chkS F st = 0 ↔ Good F st := by
  unfold chkS
  constructor
  · intro h
    by_cases h0 : chk F st.b ≠ 0
    · rw [if_pos h0] at h; exact absurd h h0
    rw [if_neg h0] at h
    by_cases h1 : 6 < st.v.length
    · rw [if_pos h1] at h; omega
    rw [if_neg h1] at h
    by_cases h2 : chkVs st.b [] st.v ≠ 0
    · rw [if_pos h2] at h; exact absurd h h2
    rw [if_neg h2] at h
    have h2' : chkVs st.b [] st.v = 0 := by omega
    obtain ⟨a1, _, a3⟩ := chkVs_zero.1 h2'
    refine ⟨(chk_zero F).1 (by omega), by omega, a1, a3, ?_⟩
    cases hr : refsB st.b (ids st.v) with
    | false => rw [hr] at h; simp at h
    | true =>
      unfold refsB at hr
      rw [List.all_eq_true] at hr
      intro x hx
      exact by simpa using hr x hx
  · intro g
    rw [if_neg (by rw [(chk_zero F).2 g.bag]; simp), if_neg (by have := g.len; omega), if_neg (by rw [chkVs_zero.2 ⟨g.vol, fun v hv => slt_nil (g.vol v hv).1, g.ord⟩]; simp), if_pos]
    unfold refsB
    rw [List.all_eq_true]
    intro x hx
    simpa using g.refs x hx

theorem Good.nm_inj {st : Sta} (g : Good F st) {i j : Nat} (hi : i < st.v.length) (hj : j < st.v.length) (e : st.v[i].nm = st.v[j].nm) : i = j := by
  have h := List.pairwise_iff_getElem.1 g.ord
  rcases Nat.lt_trichotomy i j with h1 | h1 | h1
  · have := h i j hi hj h1; rw [e, slt_irrefl] at this; cases this
  · exact h1
  · have := h j i hj hi h1; rw [e, slt_irrefl] at this; cases this

theorem errB_in {l : List Itm} {i : Idn} (h : errB l i = 0) (hi : i.1 = true) : ∃ x ∈ l, i = idOf x := by
  unfold errB at h
  rw [if_neg (by simp [hi])] at h
  cases hh : l.any (idB i) with
  | true =>
    rw [List.any_eq_true] at hh
    obtain ⟨x, hx, hx2⟩ := hh
    exact ⟨x, hx, idB_iff.1 hx2⟩
  | false => rw [hi, hh] at h; simp at h

theorem errB_hole {l : List Itm} {i : Idn} (h : errB l i = 0) (hi : i.1 = false) : i = noId := by
  unfold errB at h
  rw [hi] at h
  cases hh : (i == noId) with
  | true => simpa using hh
  | false => rw [hh] at h; simp at h

end WoolVol
