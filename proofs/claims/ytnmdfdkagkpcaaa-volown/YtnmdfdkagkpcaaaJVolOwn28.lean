/-
  What create and Put of package bag return. Conditions: the row can be read; create: the bag is right and the block has at most 64 bytes.
-/
import Derived.Test.YtnmdfdkagkpcaaaJVolOwn27
import Derived.Deep.LoopGhost
namespace Go.Proofs.Ytnmdfdkagkpcaaa
open Go.RowKit
open Go.Proofs
open WoolBag

theorem insert_any (v : Value) (l : List Itm) (x : Itm) (k base vb : Nat) (w : World) (h : OItems w base v l) (hk : k ≤ l.length) (hl : l.length ≤ 64) (hv : RowI w vb (itC x)) (hne : v.ownBlock ≠ some vb) (hbase : base ≤ w.heap.size) :
    Calls Try.prog 87 #[v, .int .i64 (k : Int), .slice (some ⟨vb, 0, none⟩) 1 1] w (InsPost w base v.ownBlock (l.take k ++ x :: l.drop k)) := by
  by_cases hkl : k = l.length
  · subst hkl
    rw [List.take_length, List.drop_length]
    exact insert_end v l x base vb w h hl hv hbase
  · rcases h.row with ⟨_, hn⟩ | ⟨g, cap, sp, rfl, hg, hrow, hc1, hc2, hc3⟩
    · rw [hn] at hk hkl; simp at hk hkl; omega
    · by_cases hroom : l.length + 1 ≤ cap
      · exact insert_room l x k base g cap vb sp w (by omega) hl hg hrow hroom hc2 hc3 hv (fun e => hne (by rw [e]; rfl))
      · exact insert_grow l x k base g cap vb sp w (by omega) hl hrow (by omega) hc1 hv hbase

theorem OItems.keep {w w' : World} {base : Nat} {v : Value} {l : List Itm} (h : OItems w base v l) (hu : ∀ b, v.ownBlock = some b → w'.heap[b]? = w.heap[b]?) : OItems w' base v l := by
  refine ⟨h.1, ?_⟩
  rcases h.2 with h | ⟨g, cap, cur, rfl, h2, h3, h4⟩
  · exact .inl h
  · exact .inr ⟨g, cap, cur, rfl, h2, (hu g rfl).trans h3, h4⟩

/-- what Put answers for a block that is not there -/
def createV (l : List Itm) (t : List UInt8) : List Itm × (Bool × Int × Int) × Int :=
  if l.length = 64 then ([], noId, 8) else (ins (new FP l t) l, idOf (new FP l t), 0)

/-- a block that holds an item -/
def BoxX (W : World) (X : Nat) (x : Itm) : Prop := RowI W X (itC x)

def CreRel (l : List Itm) (t : List UInt8) (w : World) (X gg : Nat) (wr : World) : Prop :=
  ∃ k : Nat, from_ l (FP t) k ≤ gg ∧ nfree l (FP t) 0 = nfree l (FP t) k ∧ k + from_ l (FP t) k ≤ 64 ∧ BoxX wr X ⟨FP t, (k : Int), t, 1⟩ ∧ Up w wr ∧ BoxI wr w.heap.size 51 (.bool false) (.int .i64 0) (.int .i64 0)

set_option maxRecDepth 100000 in
set_option maxHeartbeats 4000000 in
theorem create_any (v : Value) (l : List Itm) (t : List UInt8) (w : World) (h : Items w v l) (hb : Bag FP l) (ht : t.length ≤ 64) :
    Calls Try.prog 72 #[v, .string (bs t)] w (PutPost w (createV l t)) := by
  have hl := hb.len
  have HX := Lib.hid h
  obtain ⟨R, hR⟩ : ∃ R, createV l t = R := ⟨_, rfl⟩
  rw [hR]
  unfold createV at hR
  obtain ⟨o, c, rfl, h3⟩ := h.slice
  unfold maxLen at h3
  by_cases hfull : l.length = 64
  · rw [if_pos hfull] at hR
    subst hR
    clear h hb HX hl
    rw [hfull]
    go_enter Try.func72, Try.ntmps72
    go_wp2_with fail
    exact bodyPost_ret (v := .tuple #[.slice none 0 0, .agg #[.bool false, .int .i64 0, .int .i64 0], .int .i64 8]) (by simp [results, Try.results72, go_sem]) rfl ⟨_, rfl, OItems.nil _ _, Up.alloc _ _⟩
  rw [if_neg hfull] at hR
  have HR := Lib.hid hR
  have HFP := Lib.hid (fun W => fingerprint_any t W ht)
  have HCL := Lib.hid (fun W => clone_str (bs t) W (by rw [bs_size]; omega))
  have HB := Lib.hid hb
  have HF := from_le l (FP t) 0
  have HFL : Hid (0 + from_ l (FP t) 0 ≤ 64) := by show _ ≤ _; omega
  have d0 : ((l.length : Int) == 64) = false := by simp; omega
  clear hR hb h HF
  go_enter Try.func72, Try.ntmps72
  go_wp2_with fail
  refine (HFP.out _).mono ?_
  rintro e w1 ⟨rfl, u1⟩
  have hbx1 := BoxI.up (BoxI.new w 51 (.bool false) (.int .i64 0) (.int .i64 0)) u1
  have HBX1 := Lib.hid hbx1
  have HU1 : Hid (Up w w1) := Up.after _ _ _ u1
  clear hbx1 u1
  go_wp2_with fail
  refine (HCL.out _).mono ?_
  rintro e w2 ⟨rfl, u2⟩
  have HBX2 := Lib.hid (HBX1.out.up u2)
  have HU2 := Lib.hid (HU1.out.trans u2)
  clear u2 HBX1 HU1
  have hX : w.heap.size < w2.heap.size := HBX2.out.lt
  obtain ⟨X, hXX⟩ : ∃ X, w2.heap.size = X := ⟨_, rfl⟩
  have HXX := Lib.hid hXX
  have hXw : w.heap.size < X := by rw [← hXX]; exact hX
  have HST : Hid (CreRel l t w X (from_ l (FP t) 0) (w2.alloc (.cells #[.int .i64 (FP t), .int .i64 0, .string (bs t), .int .i64 1] 60))) :=
    ⟨0, Nat.le_refl _, rfl, HFL.out, by rw [← HXX.out]; exact heap_alloc_new w2 _, HU2.out.trans (Up.alloc _ _), HBX2.out.up (Up.alloc _ _)⟩
  go_wp2_with fail
  clear hXX hX
  go_loopg [22] (from_ l (FP t) 0) (fun gg _ wr => CreRel l t w X gg wr)
  case atStart => exact HST.out
  case round =>
    obtain ⟨k, hk1, hk2, hk3, hbx, hu, hid⟩ := hrel
    have HBX := Lib.hid hbx
    have HU := Lib.hid hu
    have HIDB := Lib.hid hid
    have HK2 := Lib.hid hk2
    have e0 := hbx.cell (j := 0) rfl
    have e1 := hbx.cell (j := 1) rfl
    have e2 := hbx.cell (j := 2) rfl
    have e3 := hbx.cell (j := 3) rfl
    have HIN : Hid (∀ W, Calls Try.prog 62 #[.agg #[.int .i64 (FP t), .int .i64 (k : Int), .string (bs t), .int .i64 1]] W fun e w' => e = .returned (.agg #[.bool true, .int .i64 (FP t), .int .i64 (k : Int)]) ∧ Up W w') := fun W => identifier_any ⟨FP t, (k : Int), t, 1⟩ W
    have HMK : Hid (∀ W, Calls Try.prog 86 #[.agg #[.bool true, .int .i64 (FP t), .int .i64 (k : Int)]] W (MakePost W 92 (idB (true, FP t, (k : Int))))) := fun W => hasId_make (true, FP t, (k : Int)) W
    have hkk : k ≤ 64 := by omega
    obtain ⟨Q, hQ⟩ : ∃ Q, l.any (idB (true, FP t, (k : Int))) = Q := ⟨_, rfl⟩
    have HQ := Lib.hid hQ
    clear hbx hu hid hk2 hQ HST
    go_wp2_with fail
    refine (HIN.out _).mono ?_
    rintro e w3 ⟨rfl, u3⟩
    have HU3 := Lib.hid u3
    clear u3
    go_wp2_with fail
    refine (HMK.out _).mono ?_
    rintro e w4 ⟨lb, rfl, u4, hp⟩
    have HCON := Lib.hid (containsF _ l w4 _ lb _ eg_id (HX.out.up ((HU.out.trans HU3.out).trans u4)) hp)
    have HU4 := Lib.hid (HU3.out.trans u4)
    clear u4 hp
    go_wp2_with fail
    refine HCON.out.mono ?_
    rintro e w5 ⟨rfl, u5⟩
    rw [HQ.out]
    have hw5 := HU4.out.trans u5
    have hbx5 := HBX.out.up hw5
    have HBX5 := Lib.hid hbx5
    have HU5 := Lib.hid (HU.out.trans hw5)
    have HID5 := Lib.hid (HIDB.out.up hw5)
    have f0 := hbx5.cell (j := 0) rfl
    have f1 := hbx5.cell (j := 1) rfl
    have f2 := hbx5.cell (j := 2) rfl
    have f3 := hbx5.cell (j := 3) rfl
    have fz := RowI.frozen hbx5 1
    clear u5 hw5 e0 e1 e2 e3 hbx5 HBX HU HIDB HU3 HU4 HCON
    cases Q with
    | true =>
      have p1 : IntKind.i64.wrap ((k : Int) + 1) = (k : Int) + 1 := IntWalk.i64_in _ (by omega)
      have hlt := from_lt HQ.out
      have HLT := Lib.hid hlt
      have HREL : Hid (CreRel l t w X (from_ l (FP t) (k + 1)) (w5.setCell ⟨X, 1, none⟩ (.int .i64 ((k : Int) + 1)))) := by
        refine ⟨k + 1, Nat.le_refl _, by rw [HK2.out]; exact nfree_step HQ.out, by omega, ?_, Below.setCell HU5.out (p := ⟨X, 1, none⟩) (by show w.heap.size ≤ X; omega) _, ?_⟩
        · have := RowI.set HBX5.out 1 (.int .i64 ((k : Int) + 1))
          exact this
        · have hh := HID5.out
          unfold BoxI at hh ⊢
          simp [World.setCell, Array.getElem?_modify, hh, show X ≠ w.heap.size by omega]
      clear hlt
      go_wp2_with fail
      go_roundg (from_ l (FP t) (k + 1))
      case measure => have := HLT.out; omega
      case rel => exact HREL.out
    | false =>
      have HN : Hid (new FP l t = ⟨FP t, (k : Int), t, 1⟩) := by
        show _ = _
        unfold new
        rw [HK2.out, nfree_stop HQ.out]
      have HBM : Hid (∀ W, Calls Try.prog 80 #[.agg #[.int .i64 (FP t), .int .i64 (k : Int), .string (bs t), .int .i64 1]] W (MakePost W 90 (behB ⟨FP t, (k : Int), t, 1⟩))) := fun W => isBehind_make ⟨FP t, (k : Int), t, 1⟩ W
      go_wp2_with fail
      refine (HBM.out _).mono ?_
      rintro e w6 ⟨lb2, rfl, u6, hp6⟩
      have HIX := Lib.hid (indexF _ l w6 _ lb2 _ eg_beh (HX.out.up (HU5.out.trans u6)) hp6)
      have HU6 := Lib.hid u6
      clear u6 hp6
      go_wp2_with fail
      refine HIX.out.mono ?_
      rintro e w7 ⟨rfl, u7⟩
      have hw7 := HU6.out.trans u7
      have HBX7 := Lib.hid (HBX5.out.up hw7)
      have HU7 := Lib.hid (HU5.out.trans hw7)
      have HID7 := Lib.hid (HID5.out.up hw7)
      clear hw7 u7 f0 f1 f2 f3 fz HBX5 HU5 HID5 HU6 HIX
      have hpl : place ⟨FP t, (k : Int), t, 1⟩ l ≤ l.length ∧ (ixI (behB ⟨FP t, (k : Int), t, 1⟩) l = (place ⟨FP t, (k : Int), t, 1⟩ l : Int) ∨ (ixI (behB ⟨FP t, (k : Int), t, 1⟩) l = -1 ∧ place ⟨FP t, (k : Int), t, 1⟩ l = l.length)) := by
        unfold place ixI
        cases hi : idx (behB ⟨FP t, (k : Int), t, 1⟩) l with
        | none => exact ⟨Nat.le_refl _, .inr ⟨rfl, rfl⟩⟩
        | some i => exact ⟨Nat.le_of_lt (idx_some hi).1, .inl rfl⟩
      have HINS : Hid (ins ⟨FP t, (k : Int), t, 1⟩ l = l.take (place ⟨FP t, (k : Int), t, 1⟩ l) ++ ⟨FP t, (k : Int), t, 1⟩ :: l.drop (place ⟨FP t, (k : Int), t, 1⟩ l)) := rfl
      generalize place ⟨FP t, (k : Int), t, 1⟩ l = P at hpl HINS
      generalize ixI (behB ⟨FP t, (k : Int), t, 1⟩) l = I0 at hpl
      obtain ⟨hPl, hpl⟩ := hpl
      have HCLN : Hid (∀ U, Up w7 U → Calls Try.prog 60 #[.slice o l.length c] U (OwnPost U l)) := fun U hU => clone_any _ l U (HX.out.up (HU7.out.trans hU)) hl (fun y hy => (HB.out.ok y hy).1)
      have q0 : w7.cell? ⟨X, 0, none⟩ = some (.int .i64 (FP t)) := RowI.cell HBX7.out rfl
      have q1 : w7.cell? ⟨X, 1, none⟩ = some (.int .i64 (k : Int)) := RowI.cell HBX7.out rfl
      have q2 : w7.cell? ⟨X, 2, none⟩ = some (.string (bs t)) := RowI.cell HBX7.out rfl
      have q3 : w7.cell? ⟨X, 3, none⟩ = some (.int .i64 1) := RowI.cell HBX7.out rfl
      have q4 : X < w7.heap.size := RowI.lt HBX7.out
      have hlast : ∀ (v8 : Value) (U0 U U1 : World) (vb : Nat), Up w7 U0 → U0.heap.size ≤ U.heap.size → OItems U U0.heap.size v8 l → RowI U vb (itC ⟨FP t, (k : Int), t, 1⟩) → v8.ownBlock ≠ some vb → Up w7 U → U = U1 →
          Calls Try.prog 87 #[v8, .int .i64 (P : Int), .slice (some ⟨vb, 0, none⟩) 1 1] U1 fun e w9 => ∃ v9, e = .returned v9 ∧ OItems w9 w7.heap.size v9 (ins ⟨FP t, (k : Int), t, 1⟩ l) ∧ Up w7 w9 := by
        intro v8 U0 U U1 vb hU0 hUU ho hr hn hU hEq
        subst hEq
        refine (insert_any v8 l _ P U0.heap.size vb U ho hPl hl hr hn hUU).mono ?_
        rintro e w9 ⟨v9, rfl, ho9, hg9⟩
        refine ⟨v9, rfl, by rw [HINS.out]; exact ho9.base hU0.size, ?_⟩
        exact Below.grown hU hg9 hU.size (fun j hj => Nat.le_trans hU0.size (World.ownsRow.lt ho j hj).1)
      have HLAST := Lib.hid hlast
      clear hlast HQ HMK HBM HFP HCL HFL HBX2 HU2 HXX hk1 hk3 d0
      have HPL := Lib.hid hPl
      have hXne : ¬ X = w.heap.size := by omega
      have hXne2 : ¬ w.heap.size = X := by omega
      have hXne3 : X ≠ w.heap.size := by omega
      have FINAL : Hid (∀ (v9 : Value) (L : List Itm) (w9 w10 w11 : World), OItems w9 w7.heap.size v9 L → Up w7 w9 → Up w9 w10 → ((w10.setCell ⟨w.heap.size, 0, none⟩ (.bool true)).setCell ⟨w.heap.size, 1, none⟩ (.int .i64 (FP t))).setCell ⟨w.heap.size, 2, none⟩ (.int .i64 (k : Int)) = w11 → OItems w11 w.heap.size v9 L) := by
        intro v9 L w9 w10 w11 ho _ u10 hw
        have h10 := ho.up u10
        refine (OItems.keep h10 fun b hbb => ?_).base (Nat.le_trans (Nat.le_of_lt hXw) (Nat.le_of_lt q4))
        have hb1 := (World.ownsRow.lt h10 b hbb).1
        have hne : w.heap.size ≠ b := by omega
        rw [← hw]
        simp [World.setCell, Array.getElem?_modify, hne]
      have HNB : Hid (∀ (W : World) (o : Obj) (n : Nat), (W.alloc o).heap.size ≤ n → n = W.heap.size → False) := fun W o n h e => by simp at h; omega
      have hpl' : I0 = (P : Int) ∨ (I0 = -1 ∧ l.length = P) := by
        rcases hpl with h | ⟨h1, h2⟩
        · exact .inl h
        · exact .inr ⟨h1, h2.symm⟩
      clear hpl
      obtain ⟨N, hN⟩ : ∃ N, l.length = N := ⟨_, rfl⟩
      rcases hpl' with hpl | ⟨hpl, hpl2⟩
      · subst hpl
        clear hN
        go_wp2_with fail
        go_region_held3 (fun U => U.cell? ⟨X, 0, none⟩ = some (.int .i64 (FP t)) ∧ U.cell? ⟨X, 1, none⟩ = some (.int .i64 (k : Int)) ∧ U.cell? ⟨X, 2, none⟩ = some (.string (bs t)) ∧ U.cell? ⟨X, 3, none⟩ = some (.int .i64 1)) (go_keep) (first
          | (go_at_call 60; ((refine (HCLN.out _ (by first | exact Up.drew _ | exact (Up.drew _).trans (Up.alloc _ _))).mono ?_); rintro e w8 ⟨v8, rfl, ho8, u8⟩; have u8' : Up w7 w8 := (by first | exact (Up.drew _).trans u8 | exact ((Up.drew _).trans (Up.alloc _ _)).trans u8); have g0 := (Below.cell u8' (p := ⟨X, 0, none⟩) q4).trans q0; have g1 := (Below.cell u8' (p := ⟨X, 1, none⟩) q4).trans q1; have g2 := (Below.cell u8' (p := ⟨X, 2, none⟩) q4).trans q2; have g3 := (Below.cell u8' (p := ⟨X, 3, none⟩) q4).trans q3))
          | (go_at_call 87; (first
            | (have ua := u8; change Up w7.drew w8 at ua; (refine (HLAST.out v8 w7.drew (w8.alloc (.cells #[.int .i64 (FP t), .int .i64 (k : Int), .string (bs t), .int .i64 1] 60)) _ w8.heap.size (Up.drew _) (Nat.le_trans u8'.size (Up.alloc _ _).size) (ho8.up (Up.alloc _ _)) (heap_alloc_new w8 _) (fun e => Nat.lt_irrefl _ (World.ownsRow.lt ho8 _ e).2) (u8'.trans (Up.alloc _ _)) rfl).mono ?_); rintro e w9 ⟨v9, rfl, ho9, u9⟩; have h0 := (Below.cell u9 (p := ⟨X, 0, none⟩) q4).trans q0; have h1 := (Below.cell u9 (p := ⟨X, 1, none⟩) q4).trans q1; have h2 := (Below.cell u9 (p := ⟨X, 2, none⟩) q4).trans q2; have h3 := (Below.cell u9 (p := ⟨X, 3, none⟩) q4).trans q3)
            | (have ua := u8; change Up (w7.drew.alloc (.cells #[.int .i64 (FP t), .int .i64 (k : Int), .string (bs t), .int .i64 1] 60)) w8 at ua; (refine (HLAST.out v8 (w7.drew.alloc (.cells #[.int .i64 (FP t), .int .i64 (k : Int), .string (bs t), .int .i64 1] 60)) w8 _ w7.heap.size ((Up.drew _).trans (Up.alloc _ _)) u8.size ho8 (RowI.up (heap_alloc_new w7.drew _) ua) (fun e => HNB.out w7.drew _ _ (World.ownsRow.lt ho8 _ e).1 rfl) u8' rfl).mono ?_); rintro e w9 ⟨v9, rfl, ho9, u9⟩; have h0 := (Below.cell u9 (p := ⟨X, 0, none⟩) q4).trans q0; have h1 := (Below.cell u9 (p := ⟨X, 1, none⟩) q4).trans q1; have h2 := (Below.cell u9 (p := ⟨X, 2, none⟩) q4).trans q2; have h3 := (Below.cell u9 (p := ⟨X, 3, none⟩) q4).trans q3)))
          | (go_at_call 62; ((with_reducible refine (HIN.out _).mono ?_); rintro e w10 ⟨rfl, u10⟩; have u10' := u9.trans u10; have j0 := (Below.cell u10' (p := ⟨X, 0, none⟩) q4).trans q0; have j1 := (Below.cell u10' (p := ⟨X, 1, none⟩) q4).trans q1; have j2 := (Below.cell u10' (p := ⟨X, 2, none⟩) q4).trans q2; have j3 := (Below.cell u10' (p := ⟨X, 3, none⟩) q4).trans q3; have hbx10 := HID7.out.up u10'; obtain ⟨z0, z1, z2⟩ := hbx10.cells; have y0 := hbx10.frozen 0; have y1 := hbx10.frozen 1; have y2 := hbx10.frozen 2)))
        all_goals
          have hset := hbx10.set (.bool true) (.int .i64 (FP t)) (.int .i64 (k : Int))
          obtain ⟨w11, hw11⟩ : ∃ w11, ((w10.setCell ⟨w.heap.size, 0, none⟩ (.bool true)).setCell ⟨w.heap.size, 1, none⟩ (.int .i64 (FP t))).setCell ⟨w.heap.size, 2, none⟩ (.int .i64 (k : Int)) = w11 := ⟨_, rfl⟩
          rw [hw11] at hset
          obtain ⟨s0, s1, s2⟩ := hset.cells
          have HU11 : Hid (Up w w11) := by
            show Up w w11
            rw [← hw11]
            exact ((Below.setCell (HU7.out.trans u10') (p := ⟨w.heap.size, 0, none⟩) (Nat.le_refl _) _).setCell (p := ⟨w.heap.size, 1, none⟩) (Nat.le_refl _) _).setCell (p := ⟨w.heap.size, 2, none⟩) (Nat.le_refl _) _
          have HO11 : Hid (OItems w11 w.heap.size v9 (ins ⟨FP t, (k : Int), t, 1⟩ l)) := FINAL.out v9 _ w9 w10 w11 ho9 u9 u10 hw11
          rw [hw11]
          clear hw11 hset hbx10 z0 z1 z2 y0 y1 y2 j0 j1 j2 j3 h0 h1 h2 h3 g0 g1 g2 g3
          go_wp2_with fail
          exact bodyPost_ret (v := .tuple #[v9, .agg #[.bool true, .int .i64 (FP t), .int .i64 (k : Int)], .int .i64 0]) (by simp [results, Try.results72, go_sem, s0, s1, s2]) rfl
            ⟨v9, by rw [← HR.out, HN.out]; rfl, by rw [← HR.out, HN.out]; exact HO11.out, HU11.out⟩
      · subst hpl hpl2
        clear hN
        go_wp2_with fail
        go_region_held3 (fun U => U.cell? ⟨X, 0, none⟩ = some (.int .i64 (FP t)) ∧ U.cell? ⟨X, 1, none⟩ = some (.int .i64 (k : Int)) ∧ U.cell? ⟨X, 2, none⟩ = some (.string (bs t)) ∧ U.cell? ⟨X, 3, none⟩ = some (.int .i64 1)) (go_keep) (first
          | (go_at_call 60; ((refine (HCLN.out _ (by first | exact Up.drew _ | exact (Up.drew _).trans (Up.alloc _ _))).mono ?_); rintro e w8 ⟨v8, rfl, ho8, u8⟩; have u8' : Up w7 w8 := (by first | exact (Up.drew _).trans u8 | exact ((Up.drew _).trans (Up.alloc _ _)).trans u8); have g0 := (Below.cell u8' (p := ⟨X, 0, none⟩) q4).trans q0; have g1 := (Below.cell u8' (p := ⟨X, 1, none⟩) q4).trans q1; have g2 := (Below.cell u8' (p := ⟨X, 2, none⟩) q4).trans q2; have g3 := (Below.cell u8' (p := ⟨X, 3, none⟩) q4).trans q3))
          | (go_at_call 87; (first
            | (have ua := u8; change Up w7.drew w8 at ua; (refine (HLAST.out v8 w7.drew (w8.alloc (.cells #[.int .i64 (FP t), .int .i64 (k : Int), .string (bs t), .int .i64 1] 60)) _ w8.heap.size (Up.drew _) (Nat.le_trans u8'.size (Up.alloc _ _).size) (ho8.up (Up.alloc _ _)) (heap_alloc_new w8 _) (fun e => Nat.lt_irrefl _ (World.ownsRow.lt ho8 _ e).2) (u8'.trans (Up.alloc _ _)) rfl).mono ?_); rintro e w9 ⟨v9, rfl, ho9, u9⟩; have h0 := (Below.cell u9 (p := ⟨X, 0, none⟩) q4).trans q0; have h1 := (Below.cell u9 (p := ⟨X, 1, none⟩) q4).trans q1; have h2 := (Below.cell u9 (p := ⟨X, 2, none⟩) q4).trans q2; have h3 := (Below.cell u9 (p := ⟨X, 3, none⟩) q4).trans q3)
            | (have ua := u8; change Up (w7.drew.alloc (.cells #[.int .i64 (FP t), .int .i64 (k : Int), .string (bs t), .int .i64 1] 60)) w8 at ua; (refine (HLAST.out v8 (w7.drew.alloc (.cells #[.int .i64 (FP t), .int .i64 (k : Int), .string (bs t), .int .i64 1] 60)) w8 _ w7.heap.size ((Up.drew _).trans (Up.alloc _ _)) u8.size ho8 (RowI.up (heap_alloc_new w7.drew _) ua) (fun e => HNB.out w7.drew _ _ (World.ownsRow.lt ho8 _ e).1 rfl) u8' rfl).mono ?_); rintro e w9 ⟨v9, rfl, ho9, u9⟩; have h0 := (Below.cell u9 (p := ⟨X, 0, none⟩) q4).trans q0; have h1 := (Below.cell u9 (p := ⟨X, 1, none⟩) q4).trans q1; have h2 := (Below.cell u9 (p := ⟨X, 2, none⟩) q4).trans q2; have h3 := (Below.cell u9 (p := ⟨X, 3, none⟩) q4).trans q3)))
          | (go_at_call 62; ((with_reducible refine (HIN.out _).mono ?_); rintro e w10 ⟨rfl, u10⟩; have u10' := u9.trans u10; have j0 := (Below.cell u10' (p := ⟨X, 0, none⟩) q4).trans q0; have j1 := (Below.cell u10' (p := ⟨X, 1, none⟩) q4).trans q1; have j2 := (Below.cell u10' (p := ⟨X, 2, none⟩) q4).trans q2; have j3 := (Below.cell u10' (p := ⟨X, 3, none⟩) q4).trans q3; have hbx10 := HID7.out.up u10'; obtain ⟨z0, z1, z2⟩ := hbx10.cells; have y0 := hbx10.frozen 0; have y1 := hbx10.frozen 1; have y2 := hbx10.frozen 2)))
        all_goals
          have hset := hbx10.set (.bool true) (.int .i64 (FP t)) (.int .i64 (k : Int))
          obtain ⟨w11, hw11⟩ : ∃ w11, ((w10.setCell ⟨w.heap.size, 0, none⟩ (.bool true)).setCell ⟨w.heap.size, 1, none⟩ (.int .i64 (FP t))).setCell ⟨w.heap.size, 2, none⟩ (.int .i64 (k : Int)) = w11 := ⟨_, rfl⟩
          rw [hw11] at hset
          obtain ⟨s0, s1, s2⟩ := hset.cells
          have HU11 : Hid (Up w w11) := by
            show Up w w11
            rw [← hw11]
            exact ((Below.setCell (HU7.out.trans u10') (p := ⟨w.heap.size, 0, none⟩) (Nat.le_refl _) _).setCell (p := ⟨w.heap.size, 1, none⟩) (Nat.le_refl _) _).setCell (p := ⟨w.heap.size, 2, none⟩) (Nat.le_refl _) _
          have HO11 : Hid (OItems w11 w.heap.size v9 (ins ⟨FP t, (k : Int), t, 1⟩ l)) := FINAL.out v9 _ w9 w10 w11 ho9 u9 u10 hw11
          rw [hw11]
          clear hw11 hset hbx10 z0 z1 z2 y0 y1 y2 j0 j1 j2 j3 h0 h1 h2 h3 g0 g1 g2 g3
          go_wp2_with fail
          exact bodyPost_ret (v := .tuple #[v9, .agg #[.bool true, .int .i64 (FP t), .int .i64 (k : Int)], .int .i64 0]) (by simp [results, Try.results72, go_sem, s0, s1, s2]) rfl
            ⟨v9, by rw [← HR.out, HN.out]; rfl, by rw [← HR.out, HN.out]; exact HO11.out, HU11.out⟩

/-! ytnmdfdkagkpcaaa# Put -/

theorem put_eq (l : List Itm) (t : List UInt8) : WoolBag.put FP l t = if chk FP l ≠ 0 then ([], noId, chk FP l) else if 64 < t.length then ([], noId, 2) else match idx (txtB t) l with | some i => reuseV l i | none => createV l t := by
  unfold WoolBag.put reuseV createV
  rfl

set_option maxRecDepth 100000 in
set_option maxHeartbeats 1000000 in
theorem put_any (v : Value) (l : List Itm) (t : List UInt8) (w : World) (h : Items w v l) :
    Calls Try.prog 43 #[v, .string (bs t)] w (PutPost w (WoolBag.put FP l t)) := by
  obtain ⟨R, hR⟩ : ∃ R, WoolBag.put FP l t = R := ⟨_, rfl⟩
  rw [hR]
  rw [put_eq] at hR
  have HX := Lib.hid h
  have hsz := bs_size t
  have HC := Lib.hid (fun W (hW : Up w W) => check_any v l W (h.up hW))
  obtain ⟨C, hC⟩ : ∃ C, chk FP l = C := ⟨_, rfl⟩
  rw [hC] at hR
  have HCC := Lib.hid hC
  obtain ⟨o, c, rfl, h3⟩ := h.slice
  unfold maxLen at h3
  clear hC h
  have HR := Lib.hid hR
  have HSZ := Lib.hid hsz
  clear hR hsz
  go_enter Try.func43, Try.ntmps43
  go_wp2_with fail
  refine (HC.out _ (Up.alloc _ _)).mono ?_
  rintro e w1 ⟨rfl, u1⟩
  rw [HCC.out]
  have hbx1 := BoxI.up (BoxI.new w 51 (.bool false) (.int .i64 0) (.int .i64 0)) u1
  have HBX1 := Lib.hid hbx1
  have HU1 : Hid (Up w w1) := Up.after _ _ _ u1
  obtain ⟨z0, z1, z2⟩ := hbx1.cells
  have y0 := hbx1.frozen 0
  have y1 := hbx1.frozen 1
  have y2 := hbx1.frozen 2
  have hzero := hbx1.set (.bool false) (.int .i64 0) (.int .i64 0)
  obtain ⟨w1z, hw1z⟩ : ∃ w1z, ((w1.setCell ⟨w.heap.size, 0, none⟩ (.bool false)).setCell ⟨w.heap.size, 1, none⟩ (.int .i64 0)).setCell ⟨w.heap.size, 2, none⟩ (.int .i64 0) = w1z := ⟨_, rfl⟩
  rw [hw1z] at hzero
  obtain ⟨s0, s1, s2⟩ := hzero.cells
  have HUZ : Hid (Up w w1z) := by
    show Up w w1z
    rw [← hw1z]
    exact ((Below.setCell HU1.out (p := ⟨w.heap.size, 0, none⟩) (Nat.le_refl _) _).setCell (p := ⟨w.heap.size, 1, none⟩) (Nat.le_refl _) _).setCell (p := ⟨w.heap.size, 2, none⟩) (Nat.le_refl _) _
  have HW1Z := Lib.hid hw1z
  clear hbx1 u1 hzero hw1z
  by_cases h0 : C ≠ 0
  · have hr := HR.out
    rw [if_pos h0] at hr
    have HRV := Lib.hid hr
    have hne : (C != 0) = true := by rw [bne_iff_ne]; exact h0
    clear hr h0
    go_wp2_with fail
    rw [HW1Z.out]
    exact bodyPost_ret (v := .tuple #[.slice none 0 0, .agg #[.bool false, .int .i64 0, .int .i64 0], .int .i64 C]) (by simp [results, Try.results43, go_sem, s0, s1, s2]) rfl
      ⟨_, by rw [← HRV.out]; rfl, by rw [← HRV.out]; exact OItems.nil _ _, HUZ.out⟩
  have h0' := Decidable.not_not.1 h0
  clear h0
  subst h0'
  have hbag := (chk_zero FP).1 HCC.out
  have HBAG := Lib.hid hbag
  clear hbag
  by_cases h1 : 64 < t.length
  · have hr := HR.out
    rw [if_neg (by simp), if_pos h1] at hr
    have HRV := Lib.hid hr
    have hsz := HSZ.out
    rw [← hsz] at h1
    clear hr hsz
    go_wp2_with fail
    rw [HW1Z.out]
    exact bodyPost_ret (v := .tuple #[.slice none 0 0, .agg #[.bool false, .int .i64 0, .int .i64 0], .int .i64 2]) (by simp [results, Try.results43, go_sem, s0, s1, s2]) rfl
      ⟨_, by rw [← HRV.out]; rfl, by rw [← HRV.out]; exact OItems.nil _ _, HUZ.out⟩
  have hr := HR.out
  rw [if_neg (by simp), if_neg h1] at hr
  have HRV := Lib.hid hr
  have hs1 : (bs t).size ≤ 64 := by rw [HSZ.out]; omega
  have HTL : Hid (t.length ≤ 64) := by show _ ≤ _; omega
  clear hr h1 s0 s1 s2 HW1Z HUZ
  go_wp2_with fail
  refine (hasText_make t _).mono ?_
  rintro e w2 ⟨lb, rfl, u2, hp2⟩
  have HIX := Lib.hid (indexF _ l w2 _ lb _ eg_text (HX.out.up (HU1.out.trans u2)) hp2)
  have HU2 := Lib.hid u2
  clear u2 hp2
  go_wp2_with fail
  refine HIX.out.mono ?_
  rintro e w3 ⟨rfl, u3⟩
  have hw3 := HU2.out.trans u3
  have HU3 := Lib.hid (HU1.out.trans hw3)
  have HBX3 := Lib.hid (HBX1.out.up hw3)
  clear u3 hw3 HU2 HIX z0 z1 z2 y0 y1 y2
  -- the end of both ways
  have hend : ∀ (w4 w5 : World) (L : List Itm) (i : Bool × Int × Int) (E : Int) (v4 : Value), (L, i, E) = R → OItems w4 w3.heap.size v4 L → Up w3 w4 → ((w4.setCell ⟨w.heap.size, 0, none⟩ (.bool i.1)).setCell ⟨w.heap.size, 1, none⟩ (.int .i64 i.2.1)).setCell ⟨w.heap.size, 2, none⟩ (.int .i64 i.2.2) = w5 →
      BoxI w5 w.heap.size 51 (.bool i.1) (.int .i64 i.2.1) (.int .i64 i.2.2) ∧ OItems w5 w.heap.size v4 L ∧ Up w w5 := by
    intro w4 w5 L i E v4 _ ho u4 hw
    have hb4 := HBX3.out.up u4
    have hs := hb4.set (.bool i.1) (.int .i64 i.2.1) (.int .i64 i.2.2)
    rw [hw] at hs
    refine ⟨hs, (OItems.keep ho fun b hbb => ?_).base HU3.out.size, ?_⟩
    · have hb1 := (World.ownsRow.lt ho b hbb).1
      have hne : w.heap.size ≠ b := by have := HBX3.out.lt; omega
      rw [← hw]
      simp [World.setCell, Array.getElem?_modify, hne]
    · rw [← hw]
      exact ((Below.setCell (HU3.out.trans u4) (p := ⟨w.heap.size, 0, none⟩) (Nat.le_refl _) _).setCell (p := ⟨w.heap.size, 1, none⟩) (Nat.le_refl _) _).setCell (p := ⟨w.heap.size, 2, none⟩) (Nat.le_refl _) _
  have HEND := Lib.hid hend
  clear hend
  unfold ixI
  cases hi : idx (txtB t) l with
  | some k =>
    have hkl := (idx_some hi).1
    have HCALL := Lib.hid (reuse_any (.slice o l.length c) l k w3 (HX.out.up HU3.out) HBAG.out hkl)
    have hr := HRV.out
    rw [hi] at hr
    simp only at hr
    rw [hr] at HCALL
    clear hi hr
    simp only
    go_wp2_with fail
    refine HCALL.out.mono ?_
    rintro e w4 ⟨v4, rfl, ho4, u4⟩
    have hb4 := HBX3.out.up u4
    obtain ⟨z0, z1, z2⟩ := hb4.cells
    have y0 := hb4.frozen 0
    have y1 := hb4.frozen 1
    have y2 := hb4.frozen 2
    obtain ⟨L, ⟨ib, is, iN⟩, E⟩ := R
    unfold idV
    simp only at ho4 ⊢
    obtain ⟨w5, hw5⟩ : ∃ w5, ((w4.setCell ⟨w.heap.size, 0, none⟩ (.bool ib)).setCell ⟨w.heap.size, 1, none⟩ (.int .i64 is)).setCell ⟨w.heap.size, 2, none⟩ (.int .i64 iN) = w5 := ⟨_, rfl⟩
    obtain ⟨hb5, ho5, hu5⟩ := HEND.out w4 w5 L (ib, is, iN) E v4 rfl ho4 u4 hw5
    obtain ⟨s0, s1, s2⟩ := hb5.cells
    simp only at s0 s1 s2
    have HW5 := Lib.hid hw5
    have HO5 := Lib.hid ho5
    have HU5 := Lib.hid hu5
    clear hw5 ho5 hu5 hb5 hb4 ho4 u4
    go_wp2_with fail
    rw [HW5.out]
    exact bodyPost_ret (v := .tuple #[v4, .agg #[.bool ib, .int .i64 is, .int .i64 iN], .int .i64 E]) (by simp [results, Try.results43, go_sem, s0, s1, s2]) rfl
      ⟨v4, rfl, HO5.out, HU5.out⟩
  | none =>
    have HCALL := Lib.hid (create_any (.slice o l.length c) l t w3 (HX.out.up HU3.out) HBAG.out HTL.out)
    have hr := HRV.out
    rw [hi] at hr
    simp only at hr
    rw [hr] at HCALL
    clear hi hr
    simp only
    go_wp2_with fail
    refine HCALL.out.mono ?_
    rintro e w4 ⟨v4, rfl, ho4, u4⟩
    have hb4 := HBX3.out.up u4
    obtain ⟨z0, z1, z2⟩ := hb4.cells
    have y0 := hb4.frozen 0
    have y1 := hb4.frozen 1
    have y2 := hb4.frozen 2
    obtain ⟨L, ⟨ib, is, iN⟩, E⟩ := R
    unfold idV
    simp only at ho4 ⊢
    obtain ⟨w5, hw5⟩ : ∃ w5, ((w4.setCell ⟨w.heap.size, 0, none⟩ (.bool ib)).setCell ⟨w.heap.size, 1, none⟩ (.int .i64 is)).setCell ⟨w.heap.size, 2, none⟩ (.int .i64 iN) = w5 := ⟨_, rfl⟩
    obtain ⟨hb5, ho5, hu5⟩ := HEND.out w4 w5 L (ib, is, iN) E v4 rfl ho4 u4 hw5
    obtain ⟨s0, s1, s2⟩ := hb5.cells
    simp only at s0 s1 s2
    have HW5 := Lib.hid hw5
    have HO5 := Lib.hid ho5
    have HU5 := Lib.hid hu5
    clear hw5 ho5 hu5 hb5 hb4 ho4 u4
    go_wp2_with fail
    rw [HW5.out]
    exact bodyPost_ret (v := .tuple #[v4, .agg #[.bool ib, .int .i64 is, .int .i64 iN], .int .i64 E]) (by simp [results, Try.results43, go_sem, s0, s1, s2]) rfl
      ⟨v4, rfl, HO5.out, HU5.out⟩

end Go.Proofs.Ytnmdfdkagkpcaaa
