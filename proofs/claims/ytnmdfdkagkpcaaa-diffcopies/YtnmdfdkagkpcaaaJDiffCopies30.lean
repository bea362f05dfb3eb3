/-
  What vol's release returns: a bag from which a reference of each was taken; identifiers laid in a volume's own row. Conditions: as each says.
-/
import Derived.Test.YtnmdfdkagkpcaaaJDiffCopies26
import Derived.Test.YtnmdfdkagkpcaaaJDiffCopies27
namespace Go.Proofs.Ytnmdfdkagkpcaaa
open Go.RowKit
open Go.Proofs
open WoolBag
open WoolVol

/-- one reference taken -/
def rel1 (l : List Itm) (i : Idn) : List Itm := if i.1 then (WoolBag.drop FP l i).1 else l

theorem rel_snoc : ∀ (a : List Idn) (l : List Itm) (i : Idn), rel FP l (a ++ [i]) = rel1 (rel FP l a) i
  | [], l, i => rfl
  | j :: r, l, i => by show rel FP _ (r ++ [i]) = _; rw [rel_snoc r]; rfl

theorem rel1_bag {l : List Itm} (h : Bag FP l) (i : Idn) : Bag FP (rel1 l i) := by
  unfold rel1
  split
  · by_cases e : (WoolBag.drop FP l i).2 = 0
    · exact drop_bag (F := FP) (l := l) (i := i) (b := (WoolBag.drop FP l i).1) (by rw [← e])
    · rw [drop_err e]; exact Bag.nil
  · exact h

theorem rel_bag : ∀ (a : List Idn) {l : List Itm}, Bag FP l → Bag FP (rel FP l a)
  | [], _, h => h
  | j :: r, _, h => rel_bag r (rel1_bag h j)

def RlRel (l : List Itm) (bl : List Idn) (base : Nat) (w : World) (v i : Value) (wr : World) : Prop := ∃ k : Nat, k ≤ bl.length ∧ i = .int .i64 (k : Int) ∧ OItems wr base v (rel FP l (bl.take k)) ∧ Up w wr

def RlPost (w : World) (base : Nat) (l : List Itm) (e : Ending) (w' : World) : Prop := ∃ v', e = .returned v' ∧ OItems w' base v' l ∧ Up w w'

set_option maxRecDepth 100000 in
set_option maxHeartbeats 1000000 in
theorem release_any (v vd : Value) (l : List Itm) (bl : List Idn) (base : Nat) (w : World) (h : OItems w base v l) (hb : Bag FP l) (hd : Ids w vd bl) (hbs : base ≤ w.heap.size) :
    Calls Try.prog 48 #[v, vd] w (RlPost w base (rel FP l bl)) := by
  obtain ⟨oD, cD, rfl, hD1, hD2⟩ := hd.slice
  unfold maxLen at hD2
  have HI := Lib.hid hd
  have HB := Lib.hid hb
  have HO := Lib.hid h
  clear h hb hd
  go_enter Try.func48, Try.ntmps48
  go_wp2_with fail
  go_loopw [0, 9] (fun v i wr => RlRel l bl base w v i wr) (fun _ i _ => bl.length - (intOf i).toNat)
  case atStart => exact ⟨0, Nat.zero_le _, rfl, HO.out, Up.refl w⟩
  case round =>
    obtain ⟨k, hk, rfl, ho, hu⟩ := hrel
    by_cases hlt : k < bl.length
    · obtain ⟨b, off, rfl, h5⟩ := HI.out.at (by intro e; rw [e] at hlt; simp at hlt)
      obtain ⟨a1, a2, a3⟩ := h5 k hlt
      rw [← hu.cell (World.block_lt_of_cell? w _ a1)] at a1
      rw [← hu.cell (World.block_lt_of_cell? w _ a2)] at a2
      rw [← hu.cell (World.block_lt_of_cell? w _ a3)] at a3
      have HST : Hid (rel FP l (bl.take (k + 1)) = rel1 (rel FP l (bl.take k)) bl[k]) := by
        show _ = _
        rw [List.take_succ_eq_append_getElem hlt, rel_snoc]
      obtain ⟨l', hl'⟩ : ∃ l', rel FP l (bl.take k) = l' := ⟨_, rfl⟩
      rw [hl'] at ho HST
      obtain ⟨x, hx⟩ : ∃ x, bl[k] = x := ⟨_, rfl⟩
      rw [hx] at a1 a2 a3 HST
      obtain ⟨xb, xs, xn⟩ := x
      simp only at a1 a2 a3
      have HDR := Lib.hid (fun W (hW : Up wr W) => drop_any u0 l' (xb, xs, xn) W (ho.items.up hW))
      unfold idV at HDR
      simp only at HDR
      have HOO := Lib.hid ho
      have HU := Lib.hid hu
      have hbw : base ≤ wr.heap.size := Nat.le_trans hbs hu.size
      have d1 : decide (k < bl.length) = true := decide_eq_true hlt
      clear h5 ho hu hl' hx
      cases xb with
      | false =>
        have HST2 : Hid (rel FP l (bl.take (k + 1)) = l') := HST.out
        go_wp2_with fail
        go_roundw
        case rel => exact ⟨k + 1, by omega, by go_num, by rw [HST2.out]; exact HOO.out.up (Up.alloc _ _), HU.out.trans (Up.alloc _ _)⟩
        case measure => simp only [intOf]; omega
      | true =>
        have HST2 : Hid (rel FP l (bl.take (k + 1)) = (WoolBag.drop FP l' (true, xs, xn)).1) := HST.out
        go_wp2_with fail
        refine (HDR.out _ (Up.alloc _ _)).mono ?_
        rintro e w1 ⟨v1, rfl, ho1, u1⟩
        have HO1 : Hid (OItems w1 base v1 (WoolBag.drop FP l' (true, xs, xn)).1) := ho1.base (Nat.le_trans hbw (Up.alloc _ _).size)
        have HU1 : Hid (Up w w1) := HU.out.trans ((Up.alloc _ _).trans u1)
        clear ho1 u1
        go_wp2_with fail
        go_roundw
        case rel => exact ⟨k + 1, by omega, by go_num, by rw [HST2.out]; exact HO1.out, HU1.out⟩
        case measure => simp only [intOf]; omega
    · have d1 : decide (k < bl.length) = false := decide_eq_false hlt
      rw [List.take_of_length_le (by omega)] at ho
      have HOO := Lib.hid ho
      have HU := Lib.hid hu
      clear ho hu
      go_wp2_with fail
      go_ret
      exact ⟨_, rfl, HOO.out, HU.out⟩

theorem id_set : ∀ (l : List Idn) (k : Nat) (_ : k < l.length) (x : Idn) (sp : List Value), (((fl idC l ++ sp).set (k * 3) (.bool x.1)).set (k * 3 + 1) (.int .i64 x.2.1)).set (k * 3 + 2) (.int .i64 x.2.2) = fl idC (l.set k x) ++ sp
  | [], k, h, _, _ => by simp at h
  | y :: r, 0, h, x, sp => rfl
  | y :: r, k + 1, h, x, sp => by
    have ih := id_set r k (by simpa using h) x sp
    show (((idC y ++ fl idC r ++ sp).set _ _).set _ _).set _ _ = idC y ++ fl idC (r.set k x) ++ sp
    rw [List.append_assoc, List.append_assoc, ← ih]
    unfold idC
    rw [show (k + 1) * 3 = k * 3 + 1 + 1 + 1 by omega, show k * 3 + 1 + 1 + 1 + 2 = k * 3 + 2 + 1 + 1 + 1 by omega]
    simp only [List.cons_append, List.nil_append, List.set_cons_succ]

/-- an identifier stored -/
def layId (w : World) (g a : Nat) (x : Idn) : World := ((w.setCell ⟨g, a * 3, none⟩ (.bool x.1)).setCell ⟨g, a * 3 + 1, none⟩ (.int .i64 x.2.1)).setCell ⟨g, a * 3 + 2, none⟩ (.int .i64 x.2.2)

theorem own_layId {w : World} {base T m n g a : Nat} {v : Value} {x : Idn} {L : List Value} (h : w.ownsRow base T m v n L) (hne : v.ownBlock ≠ some g) : (layId w g a x).ownsRow base T m v n L := own_set (own_set (own_set h hne) hne) hne

theorem idItem : (51 : Nat) ≠ 60 := by decide

theorem OItems.laidId {w : World} {base g a : Nat} {v : Value} {x : Idn} {l : List Itm} {L : List Value} (h : OItems w base v l) (hr : RowC w g 51 L) : OItems (layId w g a x) base v l := own_layId h (own_apart h hr (Ne.symm idItem))

theorem RowC.laidId {w : World} {g T R a : Nat} {x : Idn} {L : List Value} (h : RowC w R T L) (hne : R ≠ g) : RowC (layId w g a x) R T L := ((h.other hne _ _).other hne _ _).other hne _ _

theorem below_layId {B g a : Nat} {w0 w : World} {x : Idn} (h : Below B w0 w) (hg : B ≤ g) : Below B w0 (layId w g a x) :=
  ((h.setCell (p := ⟨g, a * 3, none⟩) hg _).setCell (p := ⟨g, a * 3 + 1, none⟩) hg _).setCell (p := ⟨g, a * 3 + 2, none⟩) hg _

/-- the row of a volume's blocks, as it lies -/
theorem ORd.at {w : World} {base : Nat} {C : List VC} {l : List Vo} (h : ORd w base C l) {k a : Nat} (hk : k < l.length) (ha : a < l[k].bl.length) :
    ∃ g cap sp, (C[k]'(by have := h.len; omega)).sl = .slice (some ⟨g, 0, none⟩) l[k].bl.length cap ∧ base ≤ g ∧ RowC w g 51 (fl idC l[k].bl ++ sp) ∧ l[k].bl.length ≤ cap ∧ cap ≤ maxLen ∧ l[k].bl.length * 3 + sp.length = cap * 3 := by
  rcases own_row (h.bl k hk) with ⟨_, h1, _⟩ | ⟨g, cap, sp, h1, h2, h3, h4, h5, h6⟩
  · omega
  · exact ⟨g, cap, sp, h1, h2, h3, h4, h5, h6⟩

theorem OVols.laidId {w : World} {base g cap a k : Nat} {v : Value} {x : Idn} {C : List VC} {l : List Vo} {sp : List Value} (hv : OVC w base v C) (h : ORd w base C l) (hk : k < l.length) (ha : a < l[k].bl.length)
    (hsl : (C[k]'(by have := h.len; omega)).sl = .slice (some ⟨g, 0, none⟩) l[k].bl.length cap) (hg : base ≤ g) (hr : RowC w g 51 (fl idC l[k].bl ++ sp)) (h4 : l[k].bl.length ≤ cap) (h5 : cap ≤ maxLen) (h6 : l[k].bl.length * 3 + sp.length = cap * 3) :
    OVols (layId w g a x) base v (setB l k a x) := by
  have hlen := h.len
  have hsB : setB l k a x = l.set k ⟨l[k].nm, l[k].bl.set a x⟩ := by
    unfold setB
    rw [getElem!_pos l k hk]
  have hb : (C[k]'(by omega)).sl.ownBlock = some g := by rw [hsl]; rfl
  rw [hsB]
  refine ⟨C, own_layId hv (own_apart hv hr (Ne.symm idVol)), ⟨by rw [List.length_set]; exact hlen, ?_, ?_, ?_⟩⟩
  · intro j hj
    rw [List.length_set] at hj
    by_cases e : k = j
    · subst e; rw [List.getElem_set_self]; exact h.nm k hk
    · rw [List.getElem_set_ne e]; exact h.nm j hj
  · intro j hj
    rw [List.length_set] at hj
    by_cases e : k = j
    · subst e
      rw [List.getElem_set_self]
      have hr' : RowC (layId w g a x) g 51 (fl idC (l[k].bl.set a x) ++ sp) := by
        have := ((hr.set (a * 3) (.bool x.1)).set (a * 3 + 1) (.int .i64 x.2.1)).set (a * 3 + 2) (.int .i64 x.2.2)
        rw [id_set l[k].bl a ha x sp] at this
        exact this
      have := own_mk (m := 3) (n := (l[k].bl.set a x).length) hg hr' (by rw [fl_length idC_len]) (by rw [List.length_set]; exact h4) h5 (by rw [List.length_set]; exact h6)
      rw [hsl]
      rw [List.length_set] at this
      show OIds _ _ _ (l[k].bl.set a x)
      unfold OIds
      rw [List.length_set]
      exact this
    · rw [List.getElem_set_ne e]
      exact own_layId (h.bl j hj) (h.apart k j hk hj g e hb)
  · intro i j hi hj b hne
    rw [List.length_set] at hi hj
    exact h.apart i j hi hj b hne

end Go.Proofs.Ytnmdfdkagkpcaaa
