/-
  The texts VolB, VolC, one behind the other; each says below what it holds and on what conditions.
-/
import Derived.Test.YtnmdfdkagkpcaaaJVolOwn16
import Derived.Test.YtnmdfdkagkpcaaaJVolOwn17
import Derived.Deep.RegionHeld3

/-
  What vol's checkVol, checkRefs and Check return. Conditions: as each says.
-/
namespace Go.Proofs.Ytnmdfdkagkpcaaa
open Go.RowKit
open Go.Proofs
open Go.Maps
open WoolBag
open WoolVol

theorem slt_bytes : ∀ a b : List UInt8, Op.bytesLess a b = slt a b
  | a, [] => by cases a <;> rfl
  | [], _ :: _ => rfl
  | x :: a, y :: b => by
    show (decide (x < y) || (x == y && Op.bytesLess a b)) = (decide (x < y) || (x == y && slt a b))
    rw [slt_bytes a b]

theorem sle_bs (a b : List UInt8) : ∀ W : World, (binOp .leq 9 (.string (bs a)) (.string (bs b))).run Try.prog W = .ok (.bool (sle a b)) W := by
  intro W
  have h1 : (bs a).toList = a := by rw [ByteArray.toList_eq, bs_list]
  have h2 : (bs b).toList = b := by rw [ByteArray.toList_eq, bs_list]
  simp [binOp, Op.stringOp, h1, h2, slt_bytes, sle]

theorem sgt_bs (a b : List UInt8) : ∀ W : World, (binOp .gtr 9 (.string (bs a)) (.string (bs b))).run Try.prog W = .ok (.bool (!(sle a b))) W := by
  intro W
  have h1 : (bs a).toList = a := by rw [ByteArray.toList_eq, bs_list]
  have h2 : (bs b).toList = b := by rw [ByteArray.toList_eq, bs_list]
  simp [binOp, Op.stringOp, h1, h2, slt_bytes, sle]

theorem slt_bs (a b : List UInt8) : ∀ W : World, (binOp .lss 9 (.string (bs a)) (.string (bs b))).run Try.prog W = .ok (.bool (slt a b)) W := by
  intro W
  have h1 : (bs a).toList = a := by rw [ByteArray.toList_eq, bs_list]
  have h2 : (bs b).toList = b := by rw [ByteArray.toList_eq, bs_list]
  simp [binOp, Op.stringOp, h1, h2, slt_bytes]

/-- a map's block holds no cells -/
theorem MapF.apart {w : World} {B n : Nat} {h : Idn → Bool} {c : Idn → Int} (k : MapF w B n h c) {p : Addr} {v : Value} (hc : w.cell? p = some v) : p.block ≠ B := by
  obtain ⟨D, ⟨es, clock, hb, _⟩, _⟩ := k
  intro e
  unfold World.cell? at hc
  rw [e, hb] at hc
  simp at hc

theorem Ids.apart {w : World} {B n : Nat} {h : Idn → Bool} {c : Idn → Int} (k : MapF w B n h c) {v : Value} {l : List Idn} (hi : Ids w v l) (hne : l ≠ []) : ∀ b, v.ownBlock = some b → some B ≠ some b := by
  obtain ⟨o, c', rfl, _, _⟩ := hi.slice
  obtain ⟨b', off, rfl, h1⟩ := hi.at hne
  intro b hb e
  cases hb
  cases e
  have hl : 0 < l.length := List.length_pos_iff.2 hne
  exact k.apart (h1 0 hl).1 rfl

/-- a cell kept by a growth of other blocks -/
theorem grown_cell {w w' : World} {B : Nat} (hg : w.grownBy w' (some B)) {p : Addr} {v : Value} (hc : w.cell? p = some v) (hne : p.block ≠ B) : w'.cell? p = some v := by
  have hlt := World.block_lt_of_cell? w _ hc
  have hb := hg.block p.block hlt (fun e => hne (by cases e; rfl))
  unfold World.cell? at hc ⊢
  rw [hb]; exact hc

def CVRel (x : Vo) (l : List Itm) (all : List Idn) (B n : Nat) (w0 : World) (i : Value) (wr : World) : Prop :=
  ∃ k : Nat, k ≤ x.bl.length ∧ i = .int .i64 k ∧ Uses wr B (n + k) l (all ++ x.bl.take k) ∧ w0.grownBy wr (some B) ∧ ∀ i ∈ x.bl.take k, errB l i = 0

def CVPost (x : Vo) (bf : List UInt8) (l : List Itm) (all : List Idn) (B n : Nat) (w : World) (e : Ending) (w' : World) : Prop :=
  e = .returned (.int .i64 (chkV l bf x)) ∧ w.grownBy w' (some B) ∧ (chkV l bf x = 0 → Uses w' B (n + 32) l (all ++ x.bl))

set_option maxRecDepth 100000 in
set_option maxHeartbeats 1000000 in
theorem checkVol_any (bf : List UInt8) (x : Vo) (u : Value) (B n : Nat) (l : List Itm) (all : List Idn) (w : World) (hx : Ids w u x.bl) (hU : Uses w B n l all) (hwf : ∀ i ∈ x.bl, WfI i) (hn : n ≤ 1000) (hall : all.length ≤ 1000) (hnm : x.nm.length ≤ 9223372036854775807) :
    Calls Try.prog 37 #[.string (bs bf), .agg #[.string (bs x.nm), u], .map (some B)] w (CVPost x bf l all B n w) := by
  have hle := sle_bs x.nm bf
  have HNM := Lib.hid (fun W => name_any x.nm W hnm)
  obtain ⟨o, c, rfl, hc1, hc2⟩ := hx.slice
  unfold maxLen at hc2
  have HX := Lib.hid hx
  have HUS := Lib.hid hU
  have HWF := Lib.hid hwf
  have hBl : B < w.heap.size := hU.lt
  clear hx hU hwf
  obtain ⟨E, hE⟩ : ∃ E, chkV l bf x = E := ⟨_, rfl⟩
  unfold CVPost
  rw [hE]
  unfold chkV at hE
  have HE := Lib.hid hE
  clear hE hnm
  obtain ⟨q, hq⟩ : ∃ q, nameB x.nm = q := ⟨_, rfl⟩
  obtain ⟨r, hr⟩ : ∃ r, sle x.nm bf = r := ⟨_, rfl⟩
  rw [hq] at HNM HE
  rw [hr] at hle HE
  clear hq hr
  obtain ⟨nm, hnm⟩ : ∃ nm, bs x.nm = nm := ⟨_, rfl⟩
  rw [hnm] at HNM hle ⊢
  clear hnm
  cases q with
  | false =>
    clear HX HUS HWF hle
    go_enter Try.func37, Try.ntmps37
    go_wp2_with fail
    refine (HNM.out _).mono ?_
    rintro e w1 ⟨rfl, rfl⟩
    go_wp2_with fail
    go_ret
    exact ⟨by rw [← HE.out]; rfl, World.grownBy_alloc w _ _, by rw [← HE.out]; intro h; cases h⟩
  | true =>
    cases r with
    | true =>
      clear HX HUS HWF
      go_enter Try.func37, Try.ntmps37
      go_wp2_with fail
      refine (HNM.out _).mono ?_
      rintro e w1 ⟨rfl, rfl⟩
      go_wp2_with fail
      go_ret
      exact ⟨by rw [← HE.out]; rfl, World.grownBy_alloc w _ _, by rw [← HE.out]; intro h; cases h⟩
    | false =>
      by_cases hbig : 32 < x.bl.length
      · have HE2 : Hid (E = 2) := by have := HE.out; rw [if_neg (by simp), if_pos hbig] at this; exact this.symm
        clear HX HUS HWF HE
        go_enter Try.func37, Try.ntmps37
        go_wp2_with fail
        refine (HNM.out _).mono ?_
        rintro e w1 ⟨rfl, rfl⟩
        go_wp2_with fail
        go_ret
        exact ⟨by rw [HE2.out]; rfl, World.grownBy_alloc w _ _, by rw [HE2.out]; intro h; cases h⟩
      · have HE2 : Hid (chkB l x.bl = E) := by have := HE.out; rw [if_neg (by simp), if_neg hbig] at this; exact this
        clear HE
        have HA : Hid (∀ _ : Nat, Uses (w.alloc (.cells #[.string nm, .slice o x.bl.length c] 62)) B n l all) := fun _ => HUS.out.up (Up.alloc _ _)
        obtain ⟨N, hN⟩ : ∃ N, x.bl.length = N := ⟨_, rfl⟩
        have HN := Lib.hid hN
        rw [hN] at hc1 hbig HA
        rw [hN]
        clear hN
        go_enter Try.func37, Try.ntmps37
        go_wp2_with fail
        refine (HNM.out _).mono ?_
        rintro e w1 ⟨rfl, rfl⟩
        go_wp2_with fail
        go_loopw [27] (fun i wr => CVRel x l all B n w i wr) (fun i _ => N - (intOf i).toNat)
        case atStart => exact ⟨0, Nat.zero_le _, rfl, by simpa using HA.out 0, World.grownBy_alloc w _ _, by simp⟩
        case round =>
          obtain ⟨k, hk, rfl, hus, hg, her⟩ := hrel
          rw [HN.out] at hk
          by_cases hlt : k < N
          · have hkl : k < x.bl.length := by rw [HN.out]; exact hlt
            obtain ⟨b, off, rfl, h5⟩ := HX.out.at (by intro e; rw [e] at hkl; simp at hkl)
            obtain ⟨a1, a2, a3⟩ := h5 k hkl
            have hbB : b ≠ B := HUS.out.apart a1
            have c1 := grown_cell hg a1 hbB
            have c2 := grown_cell hg a2 hbB
            have c3 := grown_cell hg a3 hbB
            have hw1 := HWF.out _ (List.getElem_mem hkl)
            have HT : Hid (x.bl.take (k + 1) = x.bl.take k ++ [x.bl[k]]) := List.take_succ_eq_append_getElem hkl
            have hstep := chkB_step her
            rw [List.drop_eq_getElem_cons hkl] at hstep
            have HSTEP := Lib.hid hstep
            have HER := Lib.hid her
            have HCB : Hid (∀ W, Uses W B (n + k) l (all ++ x.bl.take k) → Calls Try.prog 64 #[.agg #[.bool x.bl[k].1, .int .i64 x.bl[k].2.1, .int .i64 x.bl[k].2.2], .map (some B)] W fun e w' => e = .returned (.int .i64 (errB l x.bl[k])) ∧ Up W w') := fun W hW => checkBlock_any x.bl[k] B _ l _ W hW hw1
            have HCC : Hid (∀ W, errB l x.bl[k] = 0 → Uses W B (n + k) l (all ++ x.bl.take k) → Calls Try.prog 65 #[.agg #[.bool x.bl[k].1, .int .i64 x.bl[k].2.1, .int .i64 x.bl[k].2.2], .map (some B)] W fun e w' => e = .returned (.tuple #[]) ∧ Uses w' B (n + k + 1) l (all ++ x.bl.take k ++ [x.bl[k]]) ∧ W.grownBy w' (some B)) := fun W h0 hW =>
              count_any x.bl[k] B _ l _ W hW (by unfold maxLen; omega) hw1 (fun h1 => by
                unfold errB at h0
                rw [if_neg (by simp [h1])] at h0
                cases hh : l.any (idB x.bl[k]) with
                | true => rfl
                | false => rw [h1, hh] at h0; simp at h0) (by rw [List.length_append, List.length_take]; omega)
            have hwr : B < wr.heap.size := hus.lt
            have HUS1 := Lib.hid hus
            have HG := Lib.hid hg
            obtain ⟨R, hR⟩ : ∃ R, errB l x.bl[k] = R := ⟨_, rfl⟩
            have HR := Lib.hid hR
            rw [hR] at HCB HCC
            generalize x.bl[k].1 = xb at *
            generalize x.bl[k].2.1 = xs at *
            generalize x.bl[k].2.2 = xn at *
            have d1 : decide (k < N) = true := decide_eq_true hlt
            clear h5 a1 a2 a3 hus hg her hstep hw1 hR
            go_wp2_with fail
            refine (HCB.out _ (HUS1.out.up (Up.alloc _ _))).mono ?_
            rintro e w2 ⟨rfl, u2⟩
            have HU2 : Hid (Up wr w2) := (Up.alloc _ _).trans u2
            have hsz2 : wr.heap.size < (wr.alloc (.cells #[.bool xb, .int .i64 xs, .int .i64 xn] 51)).heap.size := by simp
            have e1 := (Below.cell u2 (p := ⟨wr.heap.size, 0, none⟩) hsz2).trans (World.cell?_alloc_new wr #[.bool xb, .int .i64 xs, .int .i64 xn] 51 0)
            have e2 := (Below.cell u2 (p := ⟨wr.heap.size, 1, none⟩) hsz2).trans (World.cell?_alloc_new wr #[.bool xb, .int .i64 xs, .int .i64 xn] 51 1)
            have e3 := (Below.cell u2 (p := ⟨wr.heap.size, 2, none⟩) hsz2).trans (World.cell?_alloc_new wr #[.bool xb, .int .i64 xs, .int .i64 xn] 51 2)
            clear u2 hsz2
            by_cases h0 : R = 0
            · subst h0
              go_wp2_with fail
              refine (HCC.out _ (by trivial) (HUS1.out.up HU2.out)).mono ?_
              rintro e w3 ⟨rfl, hus3, hg3⟩
              have HUS3 := Lib.hid hus3
              have HG3 : Hid (w.grownBy w3 (some B)) := (HG.out.trans (grown_up HU2.out _)).trans hg3
              clear hus3 hg3
              go_wp2_with fail
              go_roundw
              case rel => exact ⟨k + 1, by rw [HN.out]; omega, by go_num, by rw [HT.out, ← List.append_assoc]; exact HUS3.out, HG3.out, by rw [HT.out]; intro j hj; rw [List.mem_append] at hj; rcases hj with hj | hj; exact HER.out j hj; simp at hj; subst hj; exact HR.out⟩
              case measure => simp only [intOf]; omega
            · have hne : (R != 0) = true := by rw [bne_iff_ne]; exact h0
              have HER2 : Hid (E = R) := by
                have h1 := HE2.out
                rw [HSTEP.out] at h1
                unfold chkB at h1
                rw [HR.out, if_neg h0] at h1
                exact h1.symm
              have HG3 : Hid (w.grownBy w2 (some B)) := HG.out.trans (grown_up HU2.out _)
              clear h0
              go_wp2_with fail
              go_ret
              exact ⟨by rw [HER2.out]; rfl, HG3.out, fun h => by rw [← HER2.out, h] at hne; simp at hne⟩
          · have d1 : decide (k < N) = false := decide_eq_false hlt
            have hte : x.bl.take k = x.bl := List.take_of_length_le (by rw [HN.out]; omega)
            rw [hte] at hus her
            have HER : Hid (E = 0) := by rw [← HE2.out, chkB_zero]; exact her
            have HUS1 := Lib.hid hus
            have HG := Lib.hid hg
            clear hus hg her hte
            go_wp2_with fail
            go_ret
            exact ⟨by rw [HER.out]; rfl, HG.out, fun _ => HUS1.out.mono (by omega)⟩

end Go.Proofs.Ytnmdfdkagkpcaaa

/-
  What vol's checkRefs and Check return. Conditions: as each says.
-/
namespace Go.Proofs.Ytnmdfdkagkpcaaa
open Go.RowKit
open Go.Proofs
open Go.Maps
open WoolBag
open WoolVol

theorem MapF.look {w : World} {B n : Nat} {h : Idn → Bool} {c : Idn → Int} (k : MapF w B n h c) (i : Idn) (hi : WfI i) : (Instr.lookup 77 (.map (some B)) (idV i) false).run Try.prog w = .ok (.int .i64 (c i)) w := by
  obtain ⟨D, h1, h2⟩ := k
  obtain ⟨z, hr, hz, _⟩ := h1.lookup_int idLaw Try.underlying77 Try.underlying3 (intZero _) (key_of i hi)
  rw [(h2 i hi).2] at hz
  cases hz
  exact hr

def CRRel (l : List Itm) (all : List Idn) (w : World) (i : Value) (wr : World) : Prop :=
  ∃ k : Nat, k ≤ l.length ∧ i = .int .i64 k ∧ Up w wr ∧ ∀ x ∈ l.take k, (x.r == cnt all (idOf x)) = true

def refE (l : List Itm) (all : List Idn) : Int := if refsB l all then 0 else 11

set_option maxRecDepth 100000 in
set_option maxHeartbeats 1000000 in
theorem checkRefs_any (v : Value) (l : List Itm) (B n : Nat) (all : List Idn) (w : World) (h : Items w v l) (hb : Bag FP l) (hU : Uses w B n l all) :
    Calls Try.prog 38 #[v, .map (some B)] w fun e w' => e = .returned (.int .i64 (refE l all)) ∧ Up w w' := by
  obtain ⟨o, c, rfl, h2, h3, h4⟩ := h
  unfold maxLen at h3
  have H4 := Lib.hid h4
  have HB := Lib.hid hb
  have HUS := Lib.hid hU
  have hl := hb.len
  clear h4 hb hU
  go_enter Try.func38, Try.ntmps38
  go_wp2_with fail
  go_loopw [9] (fun i wr => CRRel l all w i wr) (fun i _ => l.length - (intOf i).toNat)
  case atStart => exact ⟨0, Nat.zero_le _, rfl, Up.refl w, by simp⟩
  case round =>
    obtain ⟨k, hk, rfl, hu, hall⟩ := hrel
    by_cases hlt : k < l.length
    · rcases H4.out with h5 | ⟨b, off, rfl, h5⟩
      · rw [h5] at hlt; simp at hlt
      · obtain ⟨a1, a2, a3, a4⟩ := h5 k hlt
        rw [← hu.cell (World.block_lt_of_cell? w _ a1)] at a1
        rw [← hu.cell (World.block_lt_of_cell? w _ a2)] at a2
        rw [← hu.cell (World.block_lt_of_cell? w _ a3)] at a3
        rw [← hu.cell (World.block_lt_of_cell? w _ a4)] at a4
        have HWF := Lib.hid (wf_id HB.out k hlt)
        have HT : Hid (l.take (k + 1) = l.take k ++ [l[k]]) := List.take_succ_eq_append_getElem hlt
        have HID : Hid (∀ W, Calls Try.prog 62 #[.agg #[.int .i64 l[k].s, .int .i64 l[k].n, .string (bs l[k].t), .int .i64 l[k].r]] W fun e w' => e = .returned (idV (idOf l[k])) ∧ Up W w') := fun W => identifier_any l[k] W
        have hus : useU l all (idOf l[k]) = cnt all (idOf l[k]) := by
          unfold useU
          rw [if_pos]
          rw [List.any_eq_true]
          exact ⟨_, List.getElem_mem hlt, idB_iff.2 rfl⟩
        have HF : Hid ((l[k].r == cnt all (idOf l[k])) = false → refE l all = 11) := by
          intro hz
          unfold refE
          rw [if_neg]
          unfold refsB
          rw [List.all_eq_true]
          intro hz2
          rw [hz2 _ (List.getElem_mem hlt)] at hz
          cases hz
        obtain ⟨z, hz⟩ : ∃ z, cnt all (idOf l[k]) = z := ⟨_, rfl⟩
        have HZ := Lib.hid hz
        rw [hz] at hus HF
        have HUU := Lib.hid hus
        clear hz hus
        generalize l[k] = x at *
        have HU := Lib.hid hu
        have HALL := Lib.hid hall
        have d1 : decide (k < l.length) = true := decide_eq_true hlt
        obtain ⟨xs, xn, xt, xr⟩ := x
        simp only at a1 a2 a3 a4 HID HF
        clear h5 hu hall
        generalize bs xt = xT at *
        cases d2 : (xr == z) with
        | false =>
          have d3 : (xr != z) = true := by rw [bne, d2]; rfl
          have HE := Lib.hid (HF.out d2)
          go_wp2_with fail
          have q0 := World.cell?_alloc_new wr #[.int .i64 xs, .int .i64 xn, .string xT, .int .i64 xr] 60 0
          have q1 := World.cell?_alloc_new wr #[.int .i64 xs, .int .i64 xn, .string xT, .int .i64 xr] 60 1
          have q2 := World.cell?_alloc_new wr #[.int .i64 xs, .int .i64 xn, .string xT, .int .i64 xr] 60 2
          have q3 := World.cell?_alloc_new wr #[.int .i64 xs, .int .i64 xn, .string xT, .int .i64 xr] 60 3
          have q4 : wr.heap.size < (wr.alloc (.cells #[.int .i64 xs, .int .i64 xn, .string xT, .int .i64 xr] 60)).heap.size := by simp
          go_region_held3 (fun U => U.cell? ⟨wr.heap.size, 0, none⟩ = some (.int .i64 xs) ∧ U.cell? ⟨wr.heap.size, 1, none⟩ = some (.int .i64 xn) ∧ U.cell? ⟨wr.heap.size, 2, none⟩ = some (.string xT) ∧ U.cell? ⟨wr.heap.size, 3, none⟩ = some (.int .i64 xr)) (go_keep)
            ((go_at_call 62; ((with_reducible refine (HID.out _).mono ?_); rintro e w4 ⟨rfl, u4⟩; have f0 := (Below.cell u4 (p := ⟨wr.heap.size, 0, none⟩) q4).trans q0; have f1 := (Below.cell u4 (p := ⟨wr.heap.size, 1, none⟩) q4).trans q1; have f2 := (Below.cell u4 (p := ⟨wr.heap.size, 2, none⟩) q4).trans q2; have f3 := (Below.cell u4 (p := ⟨wr.heap.size, 3, none⟩) q4).trans q3; have hlk := MapF.look (HUS.out.up (HU.out.trans ((Up.alloc _ _).trans ((Up.drew _).trans u4)))) _ HWF.out; rw [HUU.out] at hlk)))
          all_goals
            go_wp2_with fail
            go_ret
            exact ⟨by rw [HE.out]; rfl, HU.out.trans ((Up.alloc _ _).trans ((Up.drew _).trans u4))⟩
        | true =>
          have d3 : (xr != z) = false := by rw [bne, d2]; rfl
          go_wp2_with fail
          have q0 := World.cell?_alloc_new wr #[.int .i64 xs, .int .i64 xn, .string xT, .int .i64 xr] 60 0
          have q1 := World.cell?_alloc_new wr #[.int .i64 xs, .int .i64 xn, .string xT, .int .i64 xr] 60 1
          have q2 := World.cell?_alloc_new wr #[.int .i64 xs, .int .i64 xn, .string xT, .int .i64 xr] 60 2
          have q3 := World.cell?_alloc_new wr #[.int .i64 xs, .int .i64 xn, .string xT, .int .i64 xr] 60 3
          have q4 : wr.heap.size < (wr.alloc (.cells #[.int .i64 xs, .int .i64 xn, .string xT, .int .i64 xr] 60)).heap.size := by simp
          go_region_held3 (fun U => U.cell? ⟨wr.heap.size, 0, none⟩ = some (.int .i64 xs) ∧ U.cell? ⟨wr.heap.size, 1, none⟩ = some (.int .i64 xn) ∧ U.cell? ⟨wr.heap.size, 2, none⟩ = some (.string xT) ∧ U.cell? ⟨wr.heap.size, 3, none⟩ = some (.int .i64 xr)) (go_keep)
            ((go_at_call 62; ((with_reducible refine (HID.out _).mono ?_); rintro e w4 ⟨rfl, u4⟩; have f0 := (Below.cell u4 (p := ⟨wr.heap.size, 0, none⟩) q4).trans q0; have f1 := (Below.cell u4 (p := ⟨wr.heap.size, 1, none⟩) q4).trans q1; have f2 := (Below.cell u4 (p := ⟨wr.heap.size, 2, none⟩) q4).trans q2; have f3 := (Below.cell u4 (p := ⟨wr.heap.size, 3, none⟩) q4).trans q3; have hlk := MapF.look (HUS.out.up (HU.out.trans ((Up.alloc _ _).trans ((Up.drew _).trans u4)))) _ HWF.out; rw [HUU.out] at hlk)))
          all_goals
            have HU4 : Hid (Up w w4) := HU.out.trans ((Up.alloc _ _).trans ((Up.drew _).trans u4))
            clear f0 f1 f2 f3 q0 q1 q2 q3 q4 u4 hlk
            go_wp2_with fail
            go_roundw
            case rel => exact ⟨k + 1, by omega, by go_num, HU4.out, by rw [HT.out]; intro y hy; rw [List.mem_append] at hy; rcases hy with hy | hy; exact HALL.out y hy; simp at hy; subst hy; rw [HZ.out]; exact d2⟩
            case measure => simp only [intOf]; omega
    · have d1 : decide (k < l.length) = false := decide_eq_false hlt
      have hte : l.take k = l := List.take_of_length_le (by omega)
      rw [hte] at hall
      have HE : Hid (refE l all = 0) := by
        show _ = _
        unfold refE refsB
        rw [if_pos (List.all_eq_true.2 hall)]
      have HU := Lib.hid hu
      clear hall hu hte
      go_wp2_with fail
      go_ret
      exact ⟨by rw [HE.out]; rfl, HU.out⟩

end Go.Proofs.Ytnmdfdkagkpcaaa
