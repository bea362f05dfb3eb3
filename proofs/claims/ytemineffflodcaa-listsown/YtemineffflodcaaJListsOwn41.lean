/-
  Rows of the call's own, whose blocks lie between two places (OR), and what another row's being spoilt leaves of them; ints as cells (il). Conditions: as each says.
-/
import Derived.Test.YtemineffflodcaaJListsOwn26
import Derived.Test.YtemineffflodcaaJListsOwn30
import Derived.Test.YtemineffflodcaaJListsOwn40
namespace Go.Proofs.Ytemineffflodcaa
open Go.RowKit
open Go.Proofs

/-- a row of the call's own; its block, if it has one, lies from lo on and below hi -/
structure OR (w : World) (lo hi T m : Nat) (v : Value) (n : Nat) (L : List Value) : Prop where
  own : w.ownsRow lo T m v n L
  top : ∀ b, v.ownBlock = some b → b < hi

theorem OR.new {w : World} {lo T m n : Nat} {v : Value} {L : List Value} (h : w.ownsRow lo T m v n L) : OR w lo w.heap.size T m v n L :=
  ⟨h, fun b hb => (World.ownsRow.lt h b hb).2⟩
theorem OR.low {w : World} {lo hi T m n : Nat} {v : Value} {L : List Value} (h : OR w lo hi T m v n L) (b : Nat) (hb : v.ownBlock = some b) : lo ≤ b := (World.ownsRow.lt h.own b hb).1
theorem OR.up {w w' : World} {lo hi T m n : Nat} {v : Value} {L : List Value} (h : OR w lo hi T m v n L) (hu : Up w w') : OR w' lo hi T m v n L := ⟨own_upT h.own hu, h.top⟩
theorem OR.sl {w : World} {lo hi T m n : Nat} {v : Value} {L : List Value} (h : OR w lo hi T m v n L) : Sl w m v n L := Sl.of_own h.own
/-- kept where another row is written -/
theorem OR.by {w w' : World} {lo hi T m n lo' hi' T' m' n' : Nat} {v v' : Value} {L L' : List Value} (h : OR w lo hi T m v n L) (k : OR w lo' hi' T' m' v' n' L') (hg : w.grownBy w' v'.ownBlock) (hd : hi' ≤ lo ∨ hi ≤ lo') : OR w' lo hi T m v n L := by
  refine ⟨own_grown h.own hg fun b hb e => ?_, h.top⟩
  have h1 := h.low b hb
  have h2 := h.top b hb
  have h3 := k.low b e
  have h4 := k.top b e
  omega
theorem OR.upBy {w0 w w' : World} {lo' hi' T' m' n' : Nat} {v' : Value} {L' : List Value} (hu : Up w0 w) (k : OR w lo' hi' T' m' v' n' L') (hg : w.grownBy w' v'.ownBlock) (hl : w0.heap.size ≤ lo') : Up w0 w' :=
  Below.grown hu hg hu.size fun j hj => Nat.le_trans hl (k.low j hj)

theorem OR.shape {w : World} {lo hi T m n : Nat} {v : Value} {L : List Value} (h : OR w lo hi T m v n L) : ∃ o c, v = .slice o n c := by
  obtain ⟨o, c, h1, _⟩ := h.sl.slice
  exact ⟨o, c, h1⟩

/-- ints as cells -/
def il (zs : List Int) : List Value := zs.map fun x : Int => .int .i64 x
theorem il_length (zs : List Int) : (il zs).length = zs.length := by simp [il]
theorem il_one (zs : List Int) : ∀ u ∈ il zs, u.oneCell' = true := by
  intro u h
  simp only [il, List.mem_map] at h
  obtain ⟨x, _, rfl⟩ := h
  rfl
theorem il_nat (l : List Nat) : intL l = il (l.map fun x : Nat => (x : Int)) := by
  simp [intL, il]
theorem il_get (zs : List Int) (j : Nat) (h : j < zs.length) : (il zs)[j]? = some (.int .i64 zs[j]) := by simp [il, h]

theorem tokL_one : ∀ l : List WoolLz.Tok, ∀ u ∈ tokL l, u.oneCell' = true
  | [], u, h => by simp [tokL] at h
  | x :: r, u, h => by
    simp only [tokL, List.mem_cons] at h
    rcases h with rfl | rfl | rfl | h
    · rfl
    · rfl
    · rfl
    · exact tokL_one r u h

theorem set_mid (L : List Value) (x u : Value) (R : List Value) (k n : Nat) (h : L.length = n) : (L ++ (List.replicate k x ++ u :: R)).set (n + k) x = L ++ (List.replicate (k + 1) x ++ R) := by
  rw [← List.append_assoc, List.set_append_right _ _ (by rw [List.length_append, List.length_replicate]; omega)]
  have e : n + k - (L ++ List.replicate k x).length = 0 := by rw [List.length_append, List.length_replicate]; omega
  rw [e, List.set_cons_zero, List.append_assoc, List.replicate_succ', List.append_assoc]
  rfl

theorem seen_sl {w : World} {v : Value} {zs : List Int} (h : Seen w v zs) : Sl w 1 v zs.length (il zs) := by
  obtain ⟨o, c, rfl, h2, h3, h4⟩ := h
  refine ⟨by rw [il_length, Nat.mul_one], o, c, rfl, h2, by unfold maxLen; omega, ?_⟩
  rcases h4 with h4 | ⟨b, off, h5, h6⟩
  · left; rw [h4]; rfl
  · right
    refine ⟨b, off, h5, fun j u hj => ?_⟩
    have hlt : j < zs.length := by rw [← il_length]; exact (List.getElem?_eq_some_iff.1 hj).1
    rw [il_get zs j hlt] at hj
    cases hj
    exact h6 j hlt

theorem sl_seen {w : World} {v : Value} {zs : List Int} (h : Sl w 1 v zs.length (il zs)) : Seen w v zs := by
  obtain ⟨_, o, c, rfl, h2, h3, h4⟩ := h
  refine ⟨o, c, rfl, h2, by unfold maxLen at h3; omega, ?_⟩
  rcases h4 with h4 | ⟨b, off, h5, h6⟩
  · left; exact List.eq_nil_of_length_eq_zero h4
  · right
    exact ⟨b, off, h5, fun k hk => h6 k _ (il_get zs k hk)⟩

theorem strs_txs (l : List ByteArray) : strL l = fl txC (l.map fun s : ByteArray => s.data.toList) := by
  induction l with
  | nil => rfl
  | cons x r ih =>
    show Value.string x :: strL r = txC x.data.toList ++ fl txC (r.map _)
    rw [ih]
    show _ = [Value.string (bs x.data.toList)] ++ _
    rw [bs_of]
    rfl

end Go.Proofs.Ytemineffflodcaa
