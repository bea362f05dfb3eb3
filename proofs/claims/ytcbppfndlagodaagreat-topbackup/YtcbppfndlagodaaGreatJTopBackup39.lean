/-
  The texts DedL, IntsB, one behind the other; each says below what it holds and on what conditions.
-/
import Derived.Test.YtcbppfndlagodaaGreatJTopBackup38
import Derived.Test.YtcbppfndlagodaaGreatJTopBackup19

/-
  What is stored and loaded, in plain words: the text comes back; what both texts share is stored once. Conditions: as each says.
-/
namespace Go.Proofs.YtcbppfndlagodaaGreat
open Go.RowKit
open Go.Proofs
open WoolBag
open WoolVol

theorem ded1 {S : List UInt8} {q : Nat} {st1 : Sta} (hq : q = (pcs S).length) (hq0 : q ≠ 0) (hsi : SI ⟨zeroS.b, vins ⟨[97], List.replicate q noId⟩ zeroS.v⟩ (vplace [97] zeroS.v) (pcs S) 0 q st1) :
    S ≠ [] ∧ ∃ va, st1.v = [va] ∧ va.nm = [97] ∧ va.bl.length = q ∧ ldd st1 0 q = S ∧ st1.b.length ≤ q ∧ ∀ i, i < q → txAt st1 0 i = (pcs S)[i]? := by
  have hS : S ≠ [] := by
    rintro rfl
    rw [hq, pcs_len, ends_nil] at hq0
    exact hq0 rfl
  have hv0 : vins ⟨[97], List.replicate q noId⟩ zeroS.v = [⟨[97], List.replicate q noId⟩] := rfl
  have hp0 : vplace [97] zeroS.v = 0 := rfl
  rw [hv0, hp0] at hsi
  have hl : st1.v.length = 1 := hsi.len
  have hvol := hsi.vol 0 (by simp) (by omega)
  have hbag := hsi.bag
  have hfl := ldd_flat (st := st1) (k := 0) (P := pcs S) q (by omega) hsi.done
  rw [hq, List.take_length, pcs_join S hS, ← hq] at hfl
  refine ⟨hS, ?_⟩
  obtain ⟨va, hva⟩ : ∃ va, st1.v = [va] := List.length_eq_one_iff.1 hl
  have e : ∀ (L : List Vo) (_ : L = [va]) (h : 0 < L.length), L[0] = va := by rintro L rfl h; rfl
  rw [e _ hva] at hvol
  refine ⟨va, hva, hvol.1, ?_, hfl, ?_, hsi.done⟩
  · have := hvol.2
    simpa using this
  · have : st1.b.length ≤ 0 + (q - 0) := hbag
    omega

theorem ded2 {S T : List UInt8} {q : Nat} {st1 : Sta} (hS : S ≠ []) (hq : q = (pcs S).length) (hd : ∀ i, i < q → txAt st1 0 i = (pcs S)[i]?) : ∀ i (_ : i < (pcs (S ++ T)).length), i < q - 1 → Has st1.b (pcs (S ++ T))[i] := by
  intro i hi hiq
  have h1 := pcs_ahead S T hS i (by omega)
  rw [List.getElem?_eq_getElem hi] at h1
  have h2 := hd i (by omega)
  rw [← h1] at h2
  exact has_tx h2

theorem ded3 {S T : List UInt8} {q q2 : Nat} {st1 st2 : Sta} {va : Vo} (hS : S ≠ []) (hq : q = (pcs S).length) (hq2 : q2 = (pcs (S ++ T)).length) (hva : st1.v = [va]) (hnm : va.nm = [97]) (hbl : va.bl.length = q) (hd : ∀ i, i < q → txAt st1 0 i = (pcs S)[i]?)
    (hsi : SI ⟨st1.b, vins ⟨[98], List.replicate q2 noId⟩ st1.v⟩ (vplace [98] st1.v) (pcs (S ++ T)) (q - 1) q2 st2) :
    ∃ h0 : 0 < st2.v.length, ∃ h1 : 1 < st2.v.length, vix (nmB [98]) st2.v = some 1 ∧ st2.v[1].bl.length = q2 ∧ ldd st2 1 q2 = S ++ T ∧ vix (nmB [97]) st2.v = some 0 ∧ st2.v[0].bl.length = q ∧ ldd st2 0 q = S ∧ st2.b.length + (q - 1) ≤ st1.b.length + q2 := by
  have hp : vplace [98] [va] = 1 := by
    have hn : vix (gtB [98]) [va] = none := by
      rw [vix_none]
      intro x hx
      rw [List.mem_singleton] at hx
      subst hx
      unfold gtB
      rw [hnm]
      rfl
    unfold vplace
    rw [hn]
    rfl
  have hv : vins ⟨[98], List.replicate q2 noId⟩ [va] = [va, ⟨[98], List.replicate q2 noId⟩] := by
    show [va].take (vplace [98] [va]) ++ _ :: [va].drop (vplace [98] [va]) = _
    rw [hp]
    rfl
  rw [hva, hp, hv] at hsi
  have hl : st2.v.length = 2 := hsi.len
  have hv0 := hsi.vol 0 (by simp) (by omega)
  have hv1 := hsi.vol 1 (by simp) (by omega)
  have hbag : st2.b.length ≤ st1.b.length + (q2 - (q - 1)) := hsi.bag
  have hmore := pcs_more S T hS
  have hST : S ++ T ≠ [] := by simp [hS]
  have hfl := ldd_flat (st := st2) (k := 1) (P := pcs (S ++ T)) q2 (by omega) hsi.done
  rw [hq2, List.take_length, pcs_join _ hST, ← hq2] at hfl
  have hda : ∀ i, i < q → txAt st2 0 i = (pcs S)[i]? := by
    intro i hi
    rw [hsi.oth 0 i (by simp) (by simpa [hbl] using hi) (by omega), ← hd i hi]
    unfold txAt blk
    rw [hva]
    rfl
  have hfa := ldd_flat (st := st2) (k := 0) (P := pcs S) q (by omega) hda
  rw [hq, List.take_length, pcs_join S hS, ← hq] at hfa
  have hxa : vix (nmB [97]) [va, ⟨[98], List.replicate q2 noId⟩] = some 0 := by simp [vix, nmB, hnm]
  have hxb : vix (nmB [98]) [va, ⟨[98], List.replicate q2 noId⟩] = some 1 := by simp [vix, nmB, hnm]
  refine ⟨by omega, by omega, vix_same hsi.len hsi.vol hxb, ?_, hfl, vix_same hsi.len hsi.vol hxa, ?_, hfa, by omega⟩
  · have := hv1.2
    simpa using this
  · have := hv0.2
    rw [this]
    exact hbl

end Go.Proofs.YtcbppfndlagodaaGreat

/-
  Slices of ints that the call owns; what slices.Contains (of ints) returns of them. Conditions: as each says.
-/
namespace Go.Proofs.YtcbppfndlagodaaGreat
open Go.RowKit
open Go.Proofs

def inL (l : List Int) : List Value := l.map (Value.int .i64)
theorem inL_length (l : List Int) : (inL l).length = l.length := List.length_map _
theorem inL_one (l : List Int) : ∀ u ∈ inL l, u.oneCell' = true := by
  intro u hu
  obtain ⟨x, _, rfl⟩ := List.mem_map.1 hu
  rfl

theorem inInfo : ∃ i, Tryz.prog.info? 3 = some i ∧ i.zero = some (.int .i64 0) ∧ i.size = 1 ∧ i.bytes = 8 := by
  have h : (Tryz.prog.info? 3).map (fun i => (i.zero, i.size, i.bytes)) = some (some (.int .i64 0), 1, 8) := by kernel_rfl
  cases hq : Tryz.prog.info? 3 with
  | none => rw [hq] at h; cases h
  | some i =>
    rw [hq] at h
    simp only [Option.map_some, Option.some.injEq, Prod.mk.injEq] at h
    exact ⟨i, rfl, h.1, h.2.1, h.2.2⟩

/-- a slice of ints of the call's own -/
def OInts (w : World) (base : Nat) (v : Value) (l : List Int) : Prop := w.ownsRow base 3 1 v l.length (inL l)

theorem OInts.nil (w : World) (base : Nat) : OInts w base (.slice none 0 0) [] := World.ownsRow_nil _ _ _ _
theorem OInts.keep {w w' : World} {base : Nat} {v : Value} {l : List Int} (h : OInts w base v l) (hu : ∀ b, v.ownBlock = some b → w'.heap[b]? = w.heap[b]?) : OInts w' base v l := by
  refine ⟨h.1, ?_⟩
  rcases h.2 with h | ⟨g, cap, cur, rfl, h2, h3, h4⟩
  · exact .inl h
  · exact .inr ⟨g, cap, cur, rfl, h2, (hu g rfl).trans h3, h4⟩
theorem OInts.up {w w' : World} {base : Nat} {v : Value} {l : List Int} (h : OInts w base v l) (hu : Up w w') : OInts w' base v l :=
  h.keep fun b hb => hu.block b (World.ownsRow.lt h b hb).2
theorem OInts.shape {w : World} {base : Nat} {v : Value} {l : List Int} (h : OInts w base v l) : ∃ o c, v = .slice o l.length c ∧ l.length ≤ c ∧ c ≤ maxLen ∧ (l = [] ∨ ∃ g, o = some ⟨g, 0, none⟩ ∧ ∀ k (hk : k < l.length), w.cell? ⟨g, 0 + k * 1, none⟩ = some (.int .i64 l[k])) := by
  have h' := h
  rcases h.2 with ⟨rfl, h0⟩ | ⟨g, cap, cur, rfl, _, _, h3, h4, _⟩
  · have : l = [] := List.eq_nil_of_length_eq_zero h0
    subst this
    exact ⟨none, 0, rfl, Nat.le_refl _, by unfold maxLen; omega, .inl rfl⟩
  · refine ⟨_, cap, rfl, h3, h4, .inr ⟨g, rfl, fun k hk => ?_⟩⟩
    have := World.ownsRow.cellAt h' k (by omega)
    rw [Nat.zero_add, Nat.mul_one, this]
    unfold inL
    rw [List.getElem?_map, List.getElem?_eq_getElem hk]
    rfl

def IdxIRel (l : List Int) (z : Int) (w : World) (i : Value) (wr : World) : Prop :=
  ∃ k : Nat, k ≤ l.length ∧ i = .int .i64 k ∧ Up w wr ∧ ∀ j (h : j < l.length), j < k → l[j] ≠ z

/-- what slices.Index says of whether it is there -/
def IdxIPost (l : List Int) (z : Int) (w : World) (e : Ending) (w' : World) : Prop := ∃ r : Int, e = .returned (.int .i64 r) ∧ decide (0 ≤ r) = l.contains z ∧ Up w w'

set_option maxRecDepth 100000 in
set_option maxHeartbeats 400000 in
theorem indexInt (v : Value) (base : Nat) (l : List Int) (z : Int) (w : World) (h : OInts w base v l) :
    Calls Tryz.prog 33 #[v, .int .i64 z] w (IdxIPost l z w) := by
  obtain ⟨o, c, rfl, h2, h3, h4⟩ := h.shape
  unfold maxLen at h3
  have H4 := Lib.hid h4
  clear h4 h
  go_enter Tryz.func33, Tryz.ntmps33
  go_wp2_with fail
  go_loopw [5, 8] (fun _ i wr => IdxIRel l z w i wr) (fun _ i _ => l.length - (intOf i).toNat)
  case atStart => exact ⟨0, Nat.zero_le _, rfl, Up.refl w, fun j _ hj => by omega⟩
  case round =>
    obtain ⟨k, hk, rfl, hu, hno⟩ := hrel
    have HN := Lib.hid hno
    clear hno
    by_cases hlt : k < l.length
    · rcases H4.out with h5 | ⟨g, rfl, h5⟩
      · rw [h5] at hlt; simp at hlt
      · have a1 := h5 k hlt
        rw [← hu.cell (World.block_lt_of_cell? w _ a1)] at a1
        have d1 : decide (k < l.length) = true := decide_eq_true hlt
        obtain ⟨y, hy⟩ : ∃ y, l[k] = y := ⟨_, rfl⟩
        rw [hy] at a1
        simp only [Nat.zero_add, Nat.mul_one] at a1
        have HY := Lib.hid hy
        have HU := Lib.hid hu
        clear h5 hy hu
        by_cases e : z = y
        · subst e
          go_wp2_with fail
          all_goals try go_quiet (fail)
          all_goals
            go_wp2_with fail
            go_ret
            refine ⟨(k : Int), rfl, ?_, by first | exact HU.out | exact HU.out.trans (Up.drewN _ _)⟩
            have hc : l.contains z = true := List.contains_iff_mem.2 (by rw [← HY.out]; exact List.getElem_mem hlt)
            rw [hc]
            simp
        · have e1 : (z == y) = false := by simpa using e
          have e2 : (y == z) = false := by simpa using fun h => e h.symm
          have HE := Lib.hid e
          clear e
          go_wp2_with fail
          all_goals try go_quiet (fail)
          all_goals
            go_wp2_with fail
            go_roundw
            case rel =>
              refine ⟨k + 1, by omega, by go_num, by first | exact HU.out | exact HU.out.trans (Up.drewN _ _), fun j hj hjk => ?_⟩
              by_cases ej : j = k
              · subst ej; rw [HY.out]; exact fun h => HE.out h.symm
              · exact HN.out j hj (by omega)
            case measure => simp only [intOf]; omega
    · have d1 : decide (k < l.length) = false := decide_eq_false hlt
      have HU := Lib.hid hu
      clear hu
      go_wp2_with fail
      go_ret
      refine ⟨-1, rfl, ?_, HU.out⟩
      have hc : l.contains z = false := by
        rw [Bool.eq_false_iff]
        intro h
        obtain ⟨i, hi, e⟩ := List.getElem_of_mem (List.contains_iff_mem.1 h)
        exact HN.out i hi (by omega) e
      rw [hc]; rfl

set_option maxRecDepth 100000 in
theorem containsInt (v : Value) (base : Nat) (l : List Int) (z : Int) (w : World) (h : OInts w base v l) :
    Calls Tryz.prog 12 #[v, .int .i64 z] w fun e w' => e = .returned (.bool (l.contains z)) ∧ Up w w' := by
  obtain ⟨o, c, hv, _⟩ := h.shape
  have hcall := indexInt v base l z w h
  generalize hq : l.contains z = q at hcall ⊢
  have HQ := Lib.hid hq
  subst hv
  clear h hq
  go_enter Tryz.func12, Tryz.ntmps12
  go_wp2_with fail
  refine hcall.mono ?_
  rintro e w1 ⟨r, rfl, hr, u1⟩
  rw [HQ.out] at hr
  have HR := Lib.hid hr
  clear hr
  go_wp2_with fail
  go_ret
  exact ⟨by rw [← HR.out]; rfl, u1⟩

end Go.Proofs.YtcbppfndlagodaaGreat
