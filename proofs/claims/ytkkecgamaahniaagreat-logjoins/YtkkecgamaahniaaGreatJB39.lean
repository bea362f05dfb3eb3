/-
  What the laws' kept returns: deeds that are done, and the state behind them. Conditions: a slice of deeds that reads as deeds.
-/
import Derived.Test.YtkkecgamaahniaaGreatJB37
import Derived.Test.YtkkecgamaahniaaGreatJB38
import Derived.Deep.AppendLies
import Derived.Deep.RegionHeldLaw
namespace Go.Proofs.YtkkecgamaahniaaGreat
open Go.RowKit
open Go.Proofs
open WoolBag
open WoolVol

theorem kept_snoc : ∀ (l : List Opn) (st : Sta) (o : Opn), keptFrom FP st (l ++ [o]) = if (doO FP (keptFrom FP st l).2 o).2 = 0 then ((keptFrom FP st l).1 ++ [o], (doO FP (keptFrom FP st l).2 o).1) else keptFrom FP st l
  | [], st, o => by
    show keptFrom FP st [o] = _
    unfold keptFrom
    split <;> rfl
  | p :: r, st, o => by
    show keptFrom FP st (p :: (r ++ [o])) = _
    unfold keptFrom
    by_cases h : (doO FP st p).2 = 0
    · rw [if_pos h, if_pos h, kept_snoc r]
      simp only
      split <;> rfl
    · rw [if_neg h, if_neg h, kept_snoc r]

theorem kept_good : ∀ (l : List Opn) {st : Sta}, WoolVol.Good FP st → WoolVol.Good FP (keptFrom FP st l).2 := fun l st g => by
  rw [kept_state]
  exact deeds_good l g

theorem own_kept {w w' : World} {base T m n : Nat} {v : Value} {L : List Value} {row : Option Nat} (h : w.ownsRow base T m v n L) (hg : w.grownBy w' row) (hr : ∀ b, row = some b → b < base) : w'.ownsRow base T m v n L := by
  refine World.ownsRow.kept h hg ?_
  cases e : v.ownBlock with
  | none => exact .inl rfl
  | some b =>
    right
    intro e2
    have h1 := (World.ownsRow.lt h b e).1
    have h2 := hr b (by rw [e2])
    omega

/-- a state of the call's own, when a row below it grows -/
theorem OSt.kept {w w' : World} {base : Nat} {v : Value} {st : Sta} {row : Option Nat} (h : OSt w base v st) (hg : w.grownBy w' row) (hr : ∀ b, row = some b → b < base) : OSt w' base v st := by
  obtain ⟨vb, vv, rfl, hb, C, hC, hR⟩ := h
  exact ⟨vb, vv, rfl, own_kept hb hg hr, C, own_kept hC hg hr, ⟨hR.len, hR.nm, fun k hk => own_kept (hR.bl k hk) hg hr, hR.apart⟩⟩

/-- a row of the call's own, when another block is written -/
theorem own_put {w : World} {base T m n X i : Nat} {v y : Value} {L : List Value} (h : w.ownsRow base T m v n L) (hne : v.ownBlock ≠ some X) : (w.setCell ⟨X, i, none⟩ y).ownsRow base T m v n L := by
  refine ⟨h.1, ?_⟩
  rcases h.2 with h | ⟨g, cap, cur, rfl, h2, h3, h4⟩
  · exact .inl h
  · refine .inr ⟨g, cap, cur, rfl, h2, ?_, h4⟩
    have hgx : g ≠ X := fun e => hne (by rw [e]; rfl)
    rw [← h3]
    simp [World.setCell, Array.getElem?_modify, Ne.symm hgx]

theorem opInfoG : (Tryz.prog.info? 27).map (fun i => (i.zero, i.size, i.bytes)) = some (some (.agg #[.int .i64 0, .string ⟨#[]⟩, .string ⟨#[]⟩, .int .i64 0, .string ⟨#[]⟩]), 5, 64) := by kernel_rfl
theorem opState : (27 : Nat) ≠ 31 := by decide

structure KpI (l : List Opn) (R X : Nat) (w : World) (j : Nat) (out x y : Value) (wr : World) : Prop where
  row : RowC wr X 31 [x, y]
  box : RowC wr R 31 [.slice none 0 0, .slice none 0 0]
  st : Stat wr (.agg #[x, y]) (keptFrom FP zeroS (l.take j)).2
  own : wr.ownsRow w.heap.size 27 5 out (keptFrom FP zeroS (l.take j)).1.length (fl opC (keptFrom FP zeroS (l.take j)).1)
  up : Up w wr

def KpLoop (l : List Opn) (R X N : Nat) (w : World) (out i : Value) (wr : World) : Prop :=
  ∃ j x y, j ≤ N ∧ i = .int .i64 ((j : Nat) : Int) ∧ KpI l R X w j out x y wr

def KeptPost (l : List Opn) (w : World) (e : Ending) (w' : World) : Prop :=
  ∃ (oo : Option Addr) (co : Nat) (o1 : Option Addr) (c1 : Nat) (o2 : Option Addr) (c2 : Nat), e = .returned (.tuple #[.slice oo (keptFrom FP zeroS l).1.length co, .agg #[.slice o1 (keptFrom FP zeroS l).2.b.length c1, .slice o2 (keptFrom FP zeroS l).2.v.length c2]]) ∧
    Sl w' 5 (.slice oo (keptFrom FP zeroS l).1.length co) (keptFrom FP zeroS l).1.length (fl opC (keptFrom FP zeroS l).1) ∧ Stat w' (.agg #[.slice o1 (keptFrom FP zeroS l).2.b.length c1, .slice o2 (keptFrom FP zeroS l).2.v.length c2]) (keptFrom FP zeroS l).2 ∧ Up w w'

theorem row_newG (w : World) (L : List Value) (t : TypeId) : ∀ j u, L[j]? = some u → (w.alloc (.cells L.toArray t)).cell? ((⟨w.heap.size, 0, none⟩ : Addr).add j) = some u := by
  intro j u hj
  rw [add_off, Nat.zero_add, cell_of_row _ _ j _ _ _ (heap_alloc_new w _), ← hj]
  simp

theorem news_put {w : World} {L : List Value} {b X i : Nat} {y : Value} (h : ∀ j u, L[j]? = some u → w.cell? ((⟨b, 0, none⟩ : Addr).add j) = some u) (hne : b ≠ X) : ∀ j u, L[j]? = some u → (w.setCell ⟨X, i, none⟩ y).cell? ((⟨b, 0, none⟩ : Addr).add j) = some u := by
  intro j u hj
  have h1 := h j u hj
  have e : (⟨b, 0, none⟩ : Addr).add j = ⟨b, 0 + j, none⟩ := add_off _ _ _
  rw [e] at h1 ⊢
  rw [World.cell?_setCell_far _ _ _ _ (by intro hh; simp only at hh; exact hne hh.symm)]
  exact h1

/-- what a round holds around its append and its store -/
structure PreK (Y Q : Nat) (ly lq : List Value) (R X B : Nat) (w : World) (v ns : Value) (KL : List Opn) (TS : Sta) (x y : Value) (W : World) : Prop where
  row : RowC W X 31 [x, y]
  box : RowC W R 31 [.slice none 0 0, .slice none 0 0]
  st : OSt W B ns TS
  own : W.ownsRow w.heap.size 27 5 v KL.length (fl opC KL)
  up : Up w W
  ry : RowC W Y 31 ly
  rq : RowC W Q 27 lq

section
variable {Y Q : Nat} {ly lq : List Value} {R X B : Nat} {w W W' : World} {v v' ns : Value} {KL : List Opn} {TS : Sta} {x y : Value}

theorem PreK.upW (h : PreK Y Q ly lq R X B w v ns KL TS x y W) (hu : Up W W') : PreK Y Q ly lq R X B w v ns KL TS x y W' := ⟨h.row.up hu, h.box.up hu, h.st.up hu, own_upT h.own hu, h.up.trans hu, h.ry.up hu, h.rq.up hu⟩

theorem own_ge {base T m n Z : Nat} {L : List Value} (h : W.ownsRow base T m v n L) (hZ : Z < base) : v.ownBlock ≠ some Z := by
  intro e
  have := (World.ownsRow.lt h Z e).1
  omega

theorem OSt.put {i : Nat} {z : Value} (h : OSt W B ns TS) (hX : X < B) : OSt (W.setCell ⟨X, i, none⟩ z) B ns TS := by
  obtain ⟨vb, vv, rfl, hb, C, hC, hR⟩ := h
  exact ⟨vb, vv, rfl, own_put hb (own_ge hb hX), C, own_put hC (own_ge hC hX), ⟨hR.len, hR.nm, fun k hk => own_put (hR.bl k hk) (own_ge (hR.bl k hk) hX), hR.apart⟩⟩

theorem PreK.put (h : PreK Y Q ly lq R X B w v ns KL TS x y W) (hRX : R ≠ X) (hYX : Y ≠ X) (hXB : X < B) (hXw : w.heap.size ≤ X) (x' y' : Value) : PreK Y Q ly lq R X B w v ns KL TS x' y' ((W.setCell ⟨X, 0, none⟩ x').setCell ⟨X, 1, none⟩ y') := by
  have hn := RowC.notOwn h.row h.own opState
  exact ⟨(h.row.set 0 x').set 1 y', (h.box.other hRX 0 x').other hRX 1 y', (h.st.put hXB).put hXB, own_put (own_put h.own hn) hn, up2 h.up hXw, (h.ry.other hYX 0 x').other hYX 1 y', (h.rq.other (RowC.apart h.rq h.row opState) 0 x').other (RowC.apart h.rq h.row opState) 1 y'⟩

theorem PreK.grow {D : Opn} {g c : Nat} (h : PreK Y Q ly lq R X B w v ns KL TS x y W) (hg : W.grownBy W' v.ownBlock) (hB : ∀ b, v.ownBlock = some b → b < B) (hQ : ∀ b, v.ownBlock = some b → b < Q) (hn : W'.ownsRow w.heap.size 27 5 (.slice (some ⟨g, 0, none⟩) (KL.length + 1) c) (KL.length + 1) (fl opC KL ++ opC D)) :
    PreK Y Q ly lq R X B w (.slice (some ⟨g, 0, none⟩) (KL.length + 1) c) ns (KL ++ [D]) TS x y W' := by
  refine ⟨h.row.kept hg (RowC.notOwn h.row h.own opState), h.box.kept hg (RowC.notOwn h.box h.own opState), h.st.kept hg hB, ?_, Below.grown h.up hg h.up.size (fun k hk => (World.ownsRow.lt h.own k hk).1), h.ry.kept hg (RowC.notOwn h.ry h.own opState), h.rq.kept hg (fun e => Nat.lt_irrefl _ (hQ _ e))⟩
  have e : fl opC (KL ++ [D]) = fl opC KL ++ opC D := by rw [fl_append]; simp [fl]
  rw [e, List.length_append]
  exact hn
end

theorem PreK.cells {Y Q R X B : Nat} {w W : World} {v ns : Value} {KL : List Opn} {TS : Sta} {x y a0 a1 b0 b1 b2 b3 b4 : Value} (h : PreK Y Q [a0, a1] [b0, b1, b2, b3, b4] R X B w v ns KL TS x y W) :
    W.cell? ⟨Y, 0, none⟩ = some a0 ∧ W.cell? ⟨Y, 1, none⟩ = some a1 ∧ W.cell? ⟨Q, 0, none⟩ = some b0 ∧ W.cell? ⟨Q, 1, none⟩ = some b1 ∧ W.cell? ⟨Q, 2, none⟩ = some b2 ∧ W.cell? ⟨Q, 3, none⟩ = some b3 ∧ W.cell? ⟨Q, 4, none⟩ = some b4 :=
  ⟨h.ry.cell (j := 0) rfl, h.ry.cell (j := 1) rfl, h.rq.cell (j := 0) rfl, h.rq.cell (j := 1) rfl, h.rq.cell (j := 2) rfl, h.rq.cell (j := 3) rfl, h.rq.cell (j := 4) rfl⟩

theorem KpI.of {l : List Opn} {Y Q : Nat} {ly lq : List Value} {R X B j : Nat} {w W : World} {v x y : Value} {KL : List Opn} {TS : Sta} (h : PreK Y Q ly lq R X B w v (.agg #[x, y]) KL TS x y W) (hk : keptFrom FP zeroS (l.take j) = (KL, TS)) : KpI l R X w j v x y W :=
  ⟨h.row, h.box, by rw [hk]; exact h.st.stat, by rw [hk]; exact h.own, h.up⟩

theorem kept_snocs (l : List Opn) (j : Nat) (hj : j < l.length) : keptFrom FP zeroS (l.take (j + 1)) = if (doO FP (keptFrom FP zeroS (l.take j)).2 l[j]).2 = 0 then ((keptFrom FP zeroS (l.take j)).1 ++ [l[j]], (doO FP (keptFrom FP zeroS (l.take j)).2 l[j]).1) else keptFrom FP zeroS (l.take j) := by
  rw [List.take_add_one, List.getElem?_eq_getElem hj]
  exact kept_snoc _ _ _

set_option maxRecDepth 100000 in
set_option maxHeartbeats 4000000 in
theorem kept_any (v : Value) (l : List Opn) (w : World) (h : Ops w v l) : Calls Tryz.prog 9 #[v] w (KeptPost (l.take 60) w) := by
  have HOP := Lib.hid h
  obtain ⟨o, c, rfl, p1, p2⟩ := h.slice
  unfold maxLen at p2
  obtain ⟨n, hn⟩ : ∃ n, l.length = n := ⟨_, rfl⟩
  rw [hn] at p1 HOP ⊢
  have HLN := Lib.hid hn
  obtain ⟨N, hN⟩ : ∃ N, min n 60 = N := ⟨_, rfl⟩
  have HT60 : Hid (l.take 60 = l.take N) := by
    show _ = _
    rcases Nat.le_total l.length 60 with h9 | h9
    · rw [List.take_of_length_le h9, List.take_of_length_le (by omega)]
    · rw [show N = 60 by omega]
  rw [HT60.out]
  have hmin : ∀ (ts : Array TypeId) (t : TypeId) (W : World), (Builtin.min_ ts t #[.int .i64 (n : Int), .int .i64 60]).run Tryz.prog W = .ok (.int .i64 (N : Int)) W := by
    intro ts t W
    simp [Builtin.min_, Builtin.min2]
    omega
  have hNn : N ≤ n := by omega
  have hN6 : N ≤ 60 := by omega
  clear hN hn h HT60
  have HX : Hid (RowC ((w.alloc (.cells #[.slice none 0 0, .slice none 0 0] 31)).alloc (.cells #[.slice none 0 0, .slice none 0 0] 31)) (w.heap.size + 1) 31 [.slice none 0 0, .slice none 0 0]) := box_new w _ _ _ _
  have HR : Hid (RowC ((w.alloc (.cells #[.slice none 0 0, .slice none 0 0] 31)).alloc (.cells #[.slice none 0 0, .slice none 0 0] 31)) w.heap.size 31 [.slice none 0 0, .slice none 0 0]) := RowC.up (rowN_at [.slice none 0 0, .slice none 0 0] _ rfl) (Up.alloc _ _)
  have HW0 : Hid (Up w ((w.alloc (.cells #[.slice none 0 0, .slice none 0 0] 31)).alloc (.cells #[.slice none 0 0, .slice none 0 0] 31))) := (Up.alloc _ _).trans (Up.alloc _ _)
  obtain ⟨i0, hi', hz0, hz1, hz2⟩ := info_parts opInfoG
  have HI0 := Lib.hid hi'
  have HZ0 := Lib.hid hz0
  have HZ1 := Lib.hid hz1
  have HZ2 := Lib.hid hz2
  clear hi' hz0 hz1 hz2
  go_enter Tryz.func9, Tryz.ntmps9
  go_upto_region 2 with (fail)
  generalize (w.alloc (.cells #[.slice none 0 0, .slice none 0 0] 31)).alloc (.cells #[.slice none 0 0, .slice none 0 0] 31) = W0 at HX HR HW0 ⊢
  obtain ⟨X, hX⟩ : ∃ X, w.heap.size + 1 = X := ⟨_, rfl⟩
  have HXW : Hid (X = w.heap.size + 1) := hX.symm
  rw [hX] at HX ⊢
  obtain ⟨R, hR⟩ : ∃ R, w.heap.size = R := ⟨_, rfl⟩
  have HRW : Hid (R = w.heap.size) := hR.symm
  rw [hR] at HR ⊢
  clear hX hR
  have HRX : Hid (R ≠ X) := by have h1 := HXW.out; have h2 := HRW.out; show R ≠ X; omega
  have HXG : Hid (w.heap.size ≤ X) := by have h1 := HXW.out; show w.heap.size ≤ X; omega
  have HRG : Hid (w.heap.size ≤ R) := by have h1 := HRW.out; show w.heap.size ≤ R; omega
  have HST5 : Hid (KpLoop l R X N w (.slice none 0 0) (.int .i64 0) W0) := ⟨0, _, _, Nat.zero_le _, rfl, ⟨HX.out, HR.out, Stat.zero _, World.ownsRow_nil _ _ _ _, HW0.out⟩⟩
  clear HX HR HW0
  go_wp2_with fail
  go_loopw [5, 16] (fun out i wr => KpLoop l R X N w out i wr) (fun _ i _ => N - (intOf i).toNat)
  case atStart => exact HST5.out
  case round =>
    obtain ⟨j, x, y, hjN, rfl, hI⟩ := hrel
    have HI := Lib.hid hI
    obtain ⟨vbx, vvx, hag, hbx, hvx⟩ := hI.st
    simp at hag
    obtain ⟨rfl, rfl⟩ := hag
    obtain ⟨p5, d5, rfl, _⟩ := hbx.slice
    obtain ⟨p6, d6, rfl, _, _⟩ := hvx.slice
    obtain ⟨oo, co, hvo⟩ := own_slice hI.own
    subst hvo
    have HGC := Lib.hid (kept_good (l.take j) zero_good)
    have HLK : Hid ((keptFrom FP zeroS (l.take j)).1.length ≤ 60) := by
      have h9 := kept_len (F := FP) (l.take j) zeroS
      rw [List.length_take] at h9
      show _ ≤ _
      omega
    have HSNO := Lib.hid (fun hj => kept_snocs l j hj)
    obtain ⟨⟨KL, cur⟩, hKC⟩ : ∃ r, keptFrom FP zeroS (l.take j) = r := ⟨_, rfl⟩
    have HKC := Lib.hid hKC
    have HIst := HI.out.st
    have HIow := HI.out.own
    rw [hKC] at HGC HLK HSNO HIst HIow hbx hvx
    simp only at HGC HLK HSNO HIst HIow hbx hvx
    obtain ⟨L5, hL5⟩ : ∃ L5, cur.b.length = L5 := ⟨_, rfl⟩
    obtain ⟨L6, hL6⟩ : ∃ L6, cur.v.length = L6 := ⟨_, rfl⟩
    obtain ⟨LO, hLO⟩ : ∃ LO, KL.length = LO := ⟨_, rfl⟩
    have hKL1 : (keptFrom FP zeroS (l.take j)).1.length = LO := by rw [hKC]; exact hLO
    rw [hKL1] at HI ⊢
    rw [hL5, hL6] at HIst
    rw [hLO] at HIow HLK
    have HXr : Hid (RowC wr X 31 [.slice p5 L5 d5, .slice p6 L6 d6]) := by
      have h9 := HI.out.row
      rw [hKC] at h9
      simp only at h9
      rw [hL5, hL6] at h9
      exact h9
    have HBr := Lib.hid HI.out.box
    have HUr := Lib.hid HI.out.up
    have HSt := Lib.hid HIst
    have HOw := Lib.hid HIow
    have HLO := Lib.hid hLO
    have HL5 := Lib.hid hL5
    have HL6 := Lib.hid hL6
    clear hbx hvx hI HI HIst HIow hKL1 hLO hL5 hL6 hKC
    by_cases hlt : j < N
    · have dz : decide (j < N) = true := decide_eq_true hlt
      have hjl : j < l.length := by have := HLN.out; omega
      obtain ⟨b, off, rfl, hat⟩ := (HOP.out.up HUr.out).at (fun e => by rw [e] at hjl; simp at hjl)
      obtain ⟨e0, e1, e2, e3, e4⟩ := hat j hjl
      have HDO := Lib.hid (fun W (hW : Up wr W) => do_any _ cur l[j] W (HSt.out.up hW) (good_wf HGC.out) (HOP.out.2 l[j] (List.getElem_mem hjl)))
      have HKS := Lib.hid (HSNO.out hjl)
      obtain ⟨D, hD⟩ : ∃ D, l[j] = D := ⟨_, rfl⟩
      rw [hD] at HDO HKS e0 e1 e2 e3 e4
      unfold opA StEPost at HDO
      obtain ⟨⟨TS, TE⟩, hR⟩ : ∃ R, doO FP cur D = R := ⟨_, rfl⟩
      rw [hR] at HDO HKS
      simp only at HDO HKS
      have HOC : Hid (opC D = [.int .i64 D.kd, .string (bs D.nm), .string (bs D.to), .int .i64 D.pl, .string (bs D.tx)]) := rfl
      have HO1 := Lib.hid (opC_one D)
      rw [HOC.out] at HO1
      generalize bs D.nm = S1 at e1 HDO HOC HO1
      generalize bs D.to = S2 at e2 HDO HOC HO1
      generalize bs D.tx = S3 at e4 HDO HOC HO1
      generalize D.kd = K1 at e0 HDO HOC HO1
      generalize D.pl = K2 at e3 HDO HOC HO1
      clear hat hR hD HSNO
      go_upto_region 6 with (fail)
      have HUP := Lib.hid (Up.alloc wr (.cells #[.int .i64 K1, .string S1, .string S2, .int .i64 K2, .string S3] 27))
      have HOQ : Hid (RowC (wr.alloc (.cells #[.int .i64 K1, .string S1, .string S2, .int .i64 K2, .string S3] 27)) wr.heap.size 27 [.int .i64 K1, .string S1, .string S2, .int .i64 K2, .string S3]) := heap_alloc_new wr _
      have HLQ : Hid (∀ b, (Value.slice oo LO co).ownBlock = some b → b < wr.heap.size) := fun b hb => (World.ownsRow.lt HOw.out b hb).2
      generalize wr.alloc (.cells #[.int .i64 K1, .string S1, .string S2, .int .i64 K2, .string S3] 27) = WA at HUP HOQ ⊢
      generalize wr.heap.size = Q at HOQ HLQ ⊢
      have HXA := Lib.hid (HXr.out.up HUP.out)
      have x0 := HXA.out.cell (j := 0) rfl
      have x1 := HXA.out.cell (j := 1) rfl
      have y0 := HOQ.out.cell (j := 0) rfl
      have y1 := HOQ.out.cell (j := 1) rfl
      have y2 := HOQ.out.cell (j := 2) rfl
      have y3 := HOQ.out.cell (j := 3) rfl
      have y4 := HOQ.out.cell (j := 4) rfl
      clear e0 e1 e2 e3 e4
      go_wp2_with fail
      refine (HDO.out _ HUP.out).mono ?_
      rintro e w5 ⟨v5, rfl, ho5, u5⟩
      obtain ⟨o7, c7, o8, c8, hv5⟩ := ho5.stat.shape
      subst hv5
      obtain ⟨n7, hn7⟩ : ∃ n7, TS.b.length = n7 := ⟨_, rfl⟩
      obtain ⟨n8, hn8⟩ : ∃ n8, TS.v.length = n8 := ⟨_, rfl⟩
      simp only at ho5 ⊢
      rw [hn7, hn8] at ho5 ⊢
      have ha := Up.alloc w5 (.cells #[.slice o7 n7 c7, .slice o8 n8 c8] 31)
      have HY : Hid (RowC (w5.alloc (.cells #[.slice o7 n7 c7, .slice o8 n8 c8] 31)) w5.heap.size 31 [.slice o7 n7 c7, .slice o8 n8 c8]) := heap_alloc_new w5 _
      have HS6 := Lib.hid (ho5.up ha)
      have HX6 := Lib.hid (HXA.out.up (u5.trans ha))
      have HB6 := Lib.hid (HBr.out.up (HUP.out.trans (u5.trans ha)))
      have HQ6 := Lib.hid (HOQ.out.up (u5.trans ha))
      have HO6 := Lib.hid (own_upT HOw.out (HUP.out.trans (u5.trans ha)))
      have HU6 := Lib.hid (HUr.out.trans (HUP.out.trans (u5.trans ha)))
      have HUW := Lib.hid (u5.trans ha)
      have HLT : Hid (∀ b, (Value.slice oo LO co).ownBlock = some b → b < WA.heap.size) := fun b hb => Nat.lt_of_lt_of_le (World.ownsRow.lt HOw.out b hb).2 HUP.out.size
      have HYX : Hid (X ≠ w5.heap.size) := Nat.ne_of_lt (Nat.lt_of_lt_of_le HXA.out.lt u5.size)
      clear ho5 u5 ha x0 x1 y0 y1 y2 y3 y4
      go_upto_region 7 with (fail)
      generalize w5.alloc (.cells #[.slice o7 n7 c7, .slice o8 n8 c8] 31) = W6 at HY HS6 HX6 HB6 HQ6 HO6 HU6 HUW ⊢
      generalize w5.heap.size = Y at HY HYX ⊢
      by_cases hE : TE = 0
      · subst hE
        have HK2 : Hid (keptFrom FP zeroS (l.take (j + 1)) = (KL ++ [D], TS)) := by show _ = _; rw [HKS.out, if_pos rfl]
        have y0 := HY.out.cell (j := 0) rfl
        have y1 := HY.out.cell (j := 1) rfl
        have q0 := HQ6.out.cell (j := 0) rfl
        have q1 := HQ6.out.cell (j := 1) rfl
        have q2 := HQ6.out.cell (j := 2) rfl
        have q3 := HQ6.out.cell (j := 3) rfl
        have q4 := HQ6.out.cell (j := 4) rfl
        have z0 := HX6.out.cell (j := 0) rfl
        have z1 := HX6.out.cell (j := 1) rfl
        have z2 := HX6.out.frozen 0
        have z3 := HX6.out.frozen 1
        clear HKS
        go_upto_region 8 with (fail)
        have hlk := HLK.out
        have HPK : Hid (PreK Y Q [.slice o7 n7 c7, .slice o8 n8 c8] [.int .i64 K1, .string S1, .string S2, .int .i64 K2, .string S3] R X WA.heap.size w (.slice oo KL.length co) (.agg #[.slice o7 n7 c7, .slice o8 n8 c8]) KL TS (.slice p5 L5 d5) (.slice p6 L6 d6) W6) := ⟨HX6.out, HB6.out, HS6.out, by rw [HLO.out]; exact HO6.out, HU6.out, HY.out, HQ6.out⟩
        have HLQ2 : Hid (∀ b, (Value.slice oo KL.length co).ownBlock = some b → b < Q) := by rw [HLO.out]; exact HLQ.out
        have HYX2 : Hid (Y ≠ X) := fun h => HYX.out h.symm
        have HLT2 : Hid (∀ b, (Value.slice oo KL.length co).ownBlock = some b → b < WA.heap.size) := by rw [HLO.out]; exact HLT.out
        have HXB : Hid (X < WA.heap.size) := HXA.out.lt
        have HNX : Hid (W6.heap.size ≠ X) := Nat.ne_of_gt HX6.out.lt
        have hlk9 : KL.length ≤ 60 := by rw [HLO.out]; exact hlk
        have hLO9 := HLO.out
        subst hLO9
        go_region_held_law (fun U => U.cell? ⟨Y, 0, none⟩ = some (.slice o7 n7 c7) ∧ U.cell? ⟨Y, 1, none⟩ = some (.slice o8 n8 c8) ∧ U.cell? ⟨Q, 0, none⟩ = some (.int .i64 K1) ∧ U.cell? ⟨Q, 1, none⟩ = some (.string S1) ∧ U.cell? ⟨Q, 2, none⟩ = some (.string S2) ∧ U.cell? ⟨Q, 3, none⟩ = some (.int .i64 K2) ∧ U.cell? ⟨Q, 4, none⟩ = some (.string S3)) (first | go_keep | (exact (hpk.put HRX.out HYX2.out HXB.out HXG.out _ _).cells) | (exact ((HPK.out.upW ((Up.drew _).trans (Up.alloc _ _))).put HRX.out HYX2.out HXB.out HXG.out _ _).cells) | (exact ((HPK.out.upW (Up.drew _)).put HRX.out HYX2.out HXB.out HXG.out _ _).cells)) (first
          | (refine step_append_lies _ rfl (.tmp 29) (.tmp 31) 22 rfl w.heap.size 27 i0 (.agg #[.int .i64 0, .string ⟨#[]⟩, .string ⟨#[]⟩, .int .i64 0, .string ⟨#[]⟩]) 5 64 Tryz.underlying22 HI0.out HZ0.out HZ1.out HZ2.out rfl (by decide) (.slice oo KL.length co) KL.length (fl opC KL) (by simp [Act.eval]) (HPK.out.upW ((Up.drew W6).trans (Up.alloc W6.drew (.cells #[.int .i64 K1, .string S1, .string S2, .int .i64 K2, .string S3] 27)))).own ⟨W6.drew.heap.size, 0, none⟩ 1 1 [.int .i64 K1, .string S1, .string S2, .int .i64 K2, .string S3] (by simp [Act.eval]) rfl (row_newG W6.drew [.int .i64 K1, .string S1, .string S2, .int .i64 K2, .string S3] 27) HO1.out (by omega) (by unfold maxLen; omega) (by omega) (HPK.out.upW ((Up.drew W6).trans (Up.alloc W6.drew (.cells #[.int .i64 K1, .string S1, .string S2, .int .i64 K2, .string S3] 27)))).up.size _ rfl ?_; intro gA cA wA hA hgA hatA hltA; have hpk := PreK.grow (D := D) (HPK.out.upW ((Up.drew W6).trans (Up.alloc W6.drew (.cells #[.int .i64 K1, .string S1, .string S2, .int .i64 K2, .string S3] 27)))) hgA HLT2.out HLQ2.out (by rw [HOC.out]; exact hA); have t0 := hpk.ry.cell (j := 0) rfl; have t1 := hpk.ry.cell (j := 1) rfl; have t2 := hpk.rq.cell (j := 0) rfl; have t3 := hpk.rq.cell (j := 1) rfl; have t4 := hpk.rq.cell (j := 2) rfl; have t5 := hpk.rq.cell (j := 3) rfl; have t6 := hpk.rq.cell (j := 4) rfl; have t7 := hpk.row.frozen 0; have t8 := hpk.row.frozen 1; have t9 := hpk.row.cell (j := 0) rfl; have t10 := hpk.row.cell (j := 1) rfl)
          | (refine step_append_lies _ rfl (.tmp 29) (.tmp 31) 22 rfl w.heap.size 27 i0 (.agg #[.int .i64 0, .string ⟨#[]⟩, .string ⟨#[]⟩, .int .i64 0, .string ⟨#[]⟩]) 5 64 Tryz.underlying22 HI0.out HZ0.out HZ1.out HZ2.out rfl (by decide) (.slice oo KL.length co) KL.length (fl opC KL) (by simp [Act.eval]) ((HPK.out.upW ((Up.drew W6).trans (Up.alloc W6.drew (.cells #[.int .i64 K1, .string S1, .string S2, .int .i64 K2, .string S3] 27)))).put HRX.out HYX2.out HXB.out HXG.out (.slice o7 n7 c7) (.slice o8 n8 c8)).own ⟨W6.drew.heap.size, 0, none⟩ 1 1 [.int .i64 K1, .string S1, .string S2, .int .i64 K2, .string S3] (by simp [Act.eval]) rfl (news_put (news_put (row_newG W6.drew [.int .i64 K1, .string S1, .string S2, .int .i64 K2, .string S3] 27) HNX.out) HNX.out) HO1.out (by omega) (by unfold maxLen; omega) (by omega) ((HPK.out.upW ((Up.drew W6).trans (Up.alloc W6.drew (.cells #[.int .i64 K1, .string S1, .string S2, .int .i64 K2, .string S3] 27)))).put HRX.out HYX2.out HXB.out HXG.out (.slice o7 n7 c7) (.slice o8 n8 c8)).up.size _ rfl ?_; intro gA cA wA hA hgA hatA hltA; have hpk := PreK.grow (D := D) ((HPK.out.upW ((Up.drew W6).trans (Up.alloc W6.drew (.cells #[.int .i64 K1, .string S1, .string S2, .int .i64 K2, .string S3] 27)))).put HRX.out HYX2.out HXB.out HXG.out (.slice o7 n7 c7) (.slice o8 n8 c8)) hgA HLT2.out HLQ2.out (by rw [HOC.out]; exact hA); have t0 := hpk.ry.cell (j := 0) rfl; have t1 := hpk.ry.cell (j := 1) rfl; have t2 := hpk.rq.cell (j := 0) rfl; have t3 := hpk.rq.cell (j := 1) rfl; have t4 := hpk.rq.cell (j := 2) rfl; have t5 := hpk.rq.cell (j := 3) rfl; have t6 := hpk.rq.cell (j := 4) rfl; have t7 := hpk.row.frozen 0; have t8 := hpk.row.frozen 1; have t9 := hpk.row.cell (j := 0) rfl; have t10 := hpk.row.cell (j := 1) rfl)
          | (refine step_append_lies _ rfl (.tmp 29) (.tmp 31) 22 rfl w.heap.size 27 i0 (.agg #[.int .i64 0, .string ⟨#[]⟩, .string ⟨#[]⟩, .int .i64 0, .string ⟨#[]⟩]) 5 64 Tryz.underlying22 HI0.out HZ0.out HZ1.out HZ2.out rfl (by decide) (.slice oo KL.length co) KL.length (fl opC KL) (by simp [Act.eval]) (((HPK.out.upW (Up.drew W6)).put HRX.out HYX2.out HXB.out HXG.out (.slice o7 n7 c7) (.slice o8 n8 c8)).upW (Up.alloc _ (.cells #[.int .i64 K1, .string S1, .string S2, .int .i64 K2, .string S3] 27))).own ⟨((W6.drew.setCell ⟨X, 0, none⟩ (.slice o7 n7 c7)).setCell ⟨X, 1, none⟩ (.slice o8 n8 c8)).heap.size, 0, none⟩ 1 1 [.int .i64 K1, .string S1, .string S2, .int .i64 K2, .string S3] (by simp [Act.eval]) rfl (row_newG ((W6.drew.setCell ⟨X, 0, none⟩ (.slice o7 n7 c7)).setCell ⟨X, 1, none⟩ (.slice o8 n8 c8)) [.int .i64 K1, .string S1, .string S2, .int .i64 K2, .string S3] 27) HO1.out (by omega) (by unfold maxLen; omega) (by omega) (((HPK.out.upW (Up.drew W6)).put HRX.out HYX2.out HXB.out HXG.out (.slice o7 n7 c7) (.slice o8 n8 c8)).upW (Up.alloc _ (.cells #[.int .i64 K1, .string S1, .string S2, .int .i64 K2, .string S3] 27))).up.size _ rfl ?_; intro gA cA wA hA hgA hatA hltA; have hpk := PreK.grow (D := D) (((HPK.out.upW (Up.drew W6)).put HRX.out HYX2.out HXB.out HXG.out (.slice o7 n7 c7) (.slice o8 n8 c8)).upW (Up.alloc _ (.cells #[.int .i64 K1, .string S1, .string S2, .int .i64 K2, .string S3] 27))) hgA HLT2.out HLQ2.out (by rw [HOC.out]; exact hA); have t0 := hpk.ry.cell (j := 0) rfl; have t1 := hpk.ry.cell (j := 1) rfl; have t2 := hpk.rq.cell (j := 0) rfl; have t3 := hpk.rq.cell (j := 1) rfl; have t4 := hpk.rq.cell (j := 2) rfl; have t5 := hpk.rq.cell (j := 3) rfl; have t6 := hpk.rq.cell (j := 4) rfl; have t7 := hpk.row.frozen 0; have t8 := hpk.row.frozen 1; have t9 := hpk.row.cell (j := 0) rfl; have t10 := hpk.row.cell (j := 1) rfl))
        all_goals
          go_wp2_with fail
          go_roundw
          case rel => first
            | exact ⟨j + 1, _, _, by omega, by go_num, KpI.of hpk HK2.out⟩
            | exact ⟨j + 1, _, _, by omega, by go_num, KpI.of (hpk.put HRX.out HYX2.out HXB.out HXG.out (.slice o7 n7 c7) (.slice o8 n8 c8)) HK2.out⟩
          case measure => simp only [intOf]; omega
      · have he : (TE == 0) = false := by rw [beq_eq_false_iff_ne]; exact hE
        have HK2 : Hid (keptFrom FP zeroS (l.take (j + 1)) = (KL, cur)) := by show _ = _; rw [HKS.out, if_neg hE]
        clear hE HKS
        go_wp2_with fail
        go_roundw
        case rel => exact ⟨j + 1, _, _, by omega, by go_num, ⟨HX6.out, HB6.out, by rw [HK2.out]; exact HSt.out.up (HUP.out.trans HUW.out), by rw [HK2.out]; simp only; rw [HLO.out]; exact HO6.out, HU6.out⟩⟩
        case measure => simp only [intOf]; omega
    · have dz : decide (j < N) = false := decide_eq_false hlt
      have hjN2 : j = N := by omega
      subst hjN2
      have r0 := HBr.out.frozen 0
      have r1 := HBr.out.frozen 1
      have r2 := HBr.out.cell (j := 0) rfl
      have r3 := HBr.out.cell (j := 1) rfl
      have x0 := HXr.out.cell (j := 0) rfl
      have x1 := HXr.out.cell (j := 1) rfl
      have HSZ := Lib.hid ((Stat.boxed (x := .slice p5 L5 d5) (y := .slice p6 L6 d6) HSt.out HBr.out rfl rfl rfl).up (Up.drew _))
      have HUZ := Lib.hid ((up2 (x := .slice p5 L5 d5) (y := .slice p6 L6 d6) HUr.out HRG.out).trans (Up.drew _))
      have hn := RowC.notOwn HBr.out HOw.out opState
      have HOZ := Lib.hid (own_upT (own_put (i := 1) (y := .slice p6 L6 d6) (own_put (i := 0) (y := .slice p5 L5 d5) HOw.out hn) hn) (Up.drew _))
      have hz := (((HBr.out.set 0 (.slice p5 L5 d5)).set 1 (.slice p6 L6 d6)).up (Up.drew _))
      clear hlt hjN hn
      go_wp2_with fail
      go_region
      have z0 := hz.cell (j := 0) rfl
      have z1 := hz.cell (j := 1) rfl
      generalize ((wr.setCell ⟨R, 0, none⟩ (.slice p5 L5 d5)).setCell ⟨R, 1, none⟩ (.slice p6 L6 d6)).drew = WZ at z0 z1 HSZ HUZ HOZ ⊢
      go_wp2_with fail
      exact bodyPost_ret (v := .tuple #[.slice oo LO co, .agg #[.slice p5 L5 d5, .slice p6 L6 d6]]) (by simp [results, Tryz.results9, go_sem, z0, z1]) rfl ⟨oo, co, p5, d5, p6, d6, by rw [HKC.out]; simp only; rw [HLO.out, HL5.out, HL6.out], by rw [HKC.out]; simp only; rw [HLO.out]; exact Sl.of_own HOZ.out, by rw [HKC.out]; simp only; rw [HL5.out, HL6.out]; exact HSZ.out, HUZ.out⟩

end Go.Proofs.YtkkecgamaahniaaGreat
