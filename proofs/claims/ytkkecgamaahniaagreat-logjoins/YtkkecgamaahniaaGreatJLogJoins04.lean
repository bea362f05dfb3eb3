/-
  Deeds kept behind others: what a round holds; two deeds written out; a volume made and dropped. Conditions: as each says.
-/
import Derived.Test.YtkkecgamaahniaaGreatJB46
import Derived.Test.YtkkecgamaahniaaGreatJLogJoins02
import Derived.Test.YtkkecgamaahniaaGreatJLogJoins03
namespace Go.Proofs.YtkkecgamaahniaaGreat
open Go.RowKit
open Go.Proofs
open WoolBag
open WoolVol

structure KjI (S : Sta) (l : List Opn) (X : Nat) (w : World) (j : Nat) (out x y : Value) (wr : World) : Prop where
  row : RowC wr X 31 [x, y]
  st : Stat wr (.agg #[x, y]) (keptFrom FP S (l.take j)).2
  own : wr.ownsRow w.heap.size 27 5 out (keptFrom FP S (l.take j)).1.length (fl opC (keptFrom FP S (l.take j)).1)
  up : Up w wr

def KjLoop (S : Sta) (l : List Opn) (X N : Nat) (w : World) (out i : Value) (wr : World) : Prop :=
  ∃ j x y, j ≤ N ∧ i = .int .i64 ((j : Nat) : Int) ∧ KjI S l X w j out x y wr

/-- what a round holds around its append and its store -/
structure PreJ (Y Q : Nat) (ly lq : List Value) (X B : Nat) (w : World) (v ns : Value) (KL : List Opn) (TS : Sta) (x y : Value) (W : World) : Prop where
  row : RowC W X 31 [x, y]
  st : OSt W B ns TS
  own : W.ownsRow w.heap.size 27 5 v KL.length (fl opC KL)
  up : Up w W
  ry : RowC W Y 31 ly
  rq : RowC W Q 27 lq

section
variable {Y Q : Nat} {ly lq : List Value} {X B : Nat} {w W W' : World} {v v' ns : Value} {KL : List Opn} {TS : Sta} {x y : Value}

theorem PreJ.upW (h : PreJ Y Q ly lq X B w v ns KL TS x y W) (hu : Up W W') : PreJ Y Q ly lq X B w v ns KL TS x y W' := ⟨h.row.up hu, h.st.up hu, own_upT h.own hu, h.up.trans hu, h.ry.up hu, h.rq.up hu⟩

theorem PreJ.put (h : PreJ Y Q ly lq X B w v ns KL TS x y W) (hYX : Y ≠ X) (hXB : X < B) (hXw : w.heap.size ≤ X) (x' y' : Value) : PreJ Y Q ly lq X B w v ns KL TS x' y' ((W.setCell ⟨X, 0, none⟩ x').setCell ⟨X, 1, none⟩ y') := by
  have hn := RowC.notOwn h.row h.own opState
  exact ⟨(h.row.set 0 x').set 1 y', (h.st.put hXB).put hXB, own_put (own_put h.own hn) hn, up2 h.up hXw, (h.ry.other hYX 0 x').other hYX 1 y', (h.rq.other (RowC.apart h.rq h.row opState) 0 x').other (RowC.apart h.rq h.row opState) 1 y'⟩

theorem PreJ.grow {D : Opn} {g c : Nat} (h : PreJ Y Q ly lq X B w v ns KL TS x y W) (hg : W.grownBy W' v.ownBlock) (hB : ∀ b, v.ownBlock = some b → b < B) (hQ : ∀ b, v.ownBlock = some b → b < Q) (hn : W'.ownsRow w.heap.size 27 5 (.slice (some ⟨g, 0, none⟩) (KL.length + 1) c) (KL.length + 1) (fl opC KL ++ opC D)) :
    PreJ Y Q ly lq X B w (.slice (some ⟨g, 0, none⟩) (KL.length + 1) c) ns (KL ++ [D]) TS x y W' := by
  refine ⟨h.row.kept hg (RowC.notOwn h.row h.own opState), h.st.kept hg hB, ?_, Below.grown h.up hg h.up.size (fun k hk => (World.ownsRow.lt h.own k hk).1), h.ry.kept hg (RowC.notOwn h.ry h.own opState), h.rq.kept hg (fun e => Nat.lt_irrefl _ (hQ _ e))⟩
  have e : fl opC (KL ++ [D]) = fl opC KL ++ opC D := by rw [fl_append]; simp [fl]
  rw [e, List.length_append]
  exact hn
end

theorem PreJ.cells {Y Q X B : Nat} {w W : World} {v ns : Value} {KL : List Opn} {TS : Sta} {x y a0 a1 b0 b1 b2 b3 b4 : Value} (h : PreJ Y Q [a0, a1] [b0, b1, b2, b3, b4] X B w v ns KL TS x y W) :
    W.cell? ⟨Y, 0, none⟩ = some a0 ∧ W.cell? ⟨Y, 1, none⟩ = some a1 ∧ W.cell? ⟨Q, 0, none⟩ = some b0 ∧ W.cell? ⟨Q, 1, none⟩ = some b1 ∧ W.cell? ⟨Q, 2, none⟩ = some b2 ∧ W.cell? ⟨Q, 3, none⟩ = some b3 ∧ W.cell? ⟨Q, 4, none⟩ = some b4 :=
  ⟨h.ry.cell (j := 0) rfl, h.ry.cell (j := 1) rfl, h.rq.cell (j := 0) rfl, h.rq.cell (j := 1) rfl, h.rq.cell (j := 2) rfl, h.rq.cell (j := 3) rfl, h.rq.cell (j := 4) rfl⟩

theorem KjI.of {S : Sta} {l : List Opn} {Y Q : Nat} {ly lq : List Value} {X B j : Nat} {w W : World} {v x y : Value} {KL : List Opn} {TS : Sta} (h : PreJ Y Q ly lq X B w v (.agg #[x, y]) KL TS x y W) (hk : keptFrom FP S (l.take j) = (KL, TS)) : KjI S l X w j v x y W :=
  ⟨h.row, by rw [hk]; exact h.st.stat, by rw [hk]; exact h.own, h.up⟩

theorem kept_snocJ (S : Sta) (l : List Opn) (j : Nat) (hj : j < l.length) : keptFrom FP S (l.take (j + 1)) = if (doO FP (keptFrom FP S (l.take j)).2 l[j]).2 = 0 then ((keptFrom FP S (l.take j)).1 ++ [l[j]], (doO FP (keptFrom FP S (l.take j)).2 l[j]).1) else keptFrom FP S (l.take j) := by
  rw [List.take_add_one, List.getElem?_eq_getElem hj]
  exact kept_snoc _ _ _

/-- two deeds written out -/
theorem ops_twoL (w : World) (o p : Opn) (ho : OpWf o) (hp : OpWf p) : Ops (w.alloc (.cells (opC o ++ opC p).toArray 27)) (.slice (some ⟨w.heap.size, 0, none⟩) 2 2) [o, p] := by
  have := World.ownsRow_lit (base := w.heap.size) (e := 27) (size := 5) w (opC o ++ opC p).toArray 2 (Nat.le_refl w.heap.size) (by unfold maxLen; omega) rfl
  refine ⟨?_, by intro x hx; simp at hx; rcases hx with rfl | rfl; exact ho; exact hp⟩
  have h2 := Sl.of_own this
  exact h2

theorem dr1_do : doO FP st1 dr1 = (⟨[], []⟩, 0) := by
  have hc : chkS FP st1 = 0 := chkS_zero.2 st1_good
  have hv : vfind FP st1 [97] = (0, 0) := by
    unfold vfind
    rw [hc]
    rfl
  unfold doO
  rw [dr1_chk, if_neg (by simp)]
  show vdrop FP st1 [97] = _
  unfold vdrop
  rw [hv]
  rfl
theorem two_runs : runs FP zeroS [mk1, dr1] ⟨[], []⟩ := ⟨by rw [mk1_do], by rw [mk1_do]; exact ⟨by rw [dr1_do], by rw [dr1_do]; rfl⟩⟩

end Go.Proofs.YtkkecgamaahniaaGreat
