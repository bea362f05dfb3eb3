/-
  What vol's checkRefs and Check return. Conditions: as each says.
-/
import Derived.Test.YtjmmifanaffegaaVolB
import Derived.Deep.RegionHeld3
namespace Go.Proofs.Ytjmmifanaffegaa
open Go.RowKit
open Go.Proofs
open Go.Maps
open WoolBag
open WoolVol

theorem MapF.look {w : World} {B n : Nat} {h : Idn → Bool} {c : Idn → Int} (k : MapF w B n h c) (i : Idn) (hi : WfI i) : (Instr.lookup 47 (.map (some B)) (idV i) false).run Try.prog w = .ok (.int .i64 (c i)) w := by
  obtain ⟨D, h1, h2⟩ := k
  obtain ⟨z, hr, hz, _⟩ := h1.lookup_int idLaw Try.underlying47 Try.underlying3 (intZero _) (key_of i hi)
  rw [(h2 i hi).2] at hz
  cases hz
  exact hr

def CRRel (l : List Itm) (all : List Idn) (w : World) (i : Value) (wr : World) : Prop :=
  ∃ k : Nat, k ≤ l.length ∧ i = .int .i64 k ∧ Up w wr ∧ ∀ x ∈ l.take k, (x.r == cnt all (idOf x)) = true

def refE (l : List Itm) (all : List Idn) : Int := if refsB l all then 0 else 11

set_option maxRecDepth 100000 in
set_option maxHeartbeats 1000000 in
theorem checkRefs_any (v : Value) (l : List Itm) (B n : Nat) (all : List Idn) (w : World) (h : Items w v l) (hb : Bag FP l) (hU : Uses w B n l all) :
    Calls Try.prog 17 #[v, .map (some B)] w fun e w' => e = .returned (.int .i64 (refE l all)) ∧ Up w w' := by
  obtain ⟨o, c, rfl, h2, h3, h4⟩ := h
  unfold maxLen at h3
  have H4 := Lib.hid h4
  have HB := Lib.hid hb
  have HUS := Lib.hid hU
  have hl := hb.len
  clear h4 hb hU
  go_enter Try.func17, Try.ntmps17
  go_wp2_with fail
  go_loopw [9] (fun i wr => CRRel l all w i wr) (fun i _ => l.length - (intOf i).toNat)
  case atStart => exact ⟨0, Nat.zero_le _, rfl, Up.refl w, by simp⟩
  case round =>
    obtain ⟨k, hk, rfl, hu, hall⟩ := hrel
    by_cases hlt : k < l.length
    · rcases H4.out with h5 | ⟨b, off, rfl, h5⟩
      · rw [h5] at hlt; simp at hlt
      · obtain ⟨a1, a2, a3, a4⟩ := h5 k hlt
        rw [← hu.cell (World.block_lt_of_cell? w _ a1)] at a1
        rw [← hu.cell (World.block_lt_of_cell? w _ a2)] at a2
        rw [← hu.cell (World.block_lt_of_cell? w _ a3)] at a3
        rw [← hu.cell (World.block_lt_of_cell? w _ a4)] at a4
        have HWF := Lib.hid (wf_id HB.out k hlt)
        have HT : Hid (l.take (k + 1) = l.take k ++ [l[k]]) := List.take_succ_eq_append_getElem hlt
        have HID : Hid (∀ W, Calls Try.prog 33 #[.agg #[.int .i64 l[k].s, .int .i64 l[k].n, .string (bs l[k].t), .int .i64 l[k].r]] W fun e w' => e = .returned (idV (idOf l[k])) ∧ Up W w') := fun W => identifier_any l[k] W
        have hus : useU l all (idOf l[k]) = cnt all (idOf l[k]) := by
          unfold useU
          rw [if_pos]
          rw [List.any_eq_true]
          exact ⟨_, List.getElem_mem hlt, idB_iff.2 rfl⟩
        have HF : Hid ((l[k].r == cnt all (idOf l[k])) = false → refE l all = 11) := by
          intro hz
          unfold refE
          rw [if_neg]
          unfold refsB
          rw [List.all_eq_true]
          intro hz2
          rw [hz2 _ (List.getElem_mem hlt)] at hz
          cases hz
        obtain ⟨z, hz⟩ : ∃ z, cnt all (idOf l[k]) = z := ⟨_, rfl⟩
        have HZ := Lib.hid hz
        rw [hz] at hus HF
        have HUU := Lib.hid hus
        clear hz hus
        generalize l[k] = x at *
        have HU := Lib.hid hu
        have HALL := Lib.hid hall
        have d1 : decide (k < l.length) = true := decide_eq_true hlt
        obtain ⟨xs, xn, xt, xr⟩ := x
        simp only at a1 a2 a3 a4 HID HF
        clear h5 hu hall
        generalize bs xt = xT at *
        cases d2 : (xr == z) with
        | false =>
          have d3 : (xr != z) = true := by rw [bne, d2]; rfl
          have HE := Lib.hid (HF.out d2)
          go_wp2_with fail
          have q0 := World.cell?_alloc_new wr #[.int .i64 xs, .int .i64 xn, .string xT, .int .i64 xr] 72 0
          have q1 := World.cell?_alloc_new wr #[.int .i64 xs, .int .i64 xn, .string xT, .int .i64 xr] 72 1
          have q2 := World.cell?_alloc_new wr #[.int .i64 xs, .int .i64 xn, .string xT, .int .i64 xr] 72 2
          have q3 := World.cell?_alloc_new wr #[.int .i64 xs, .int .i64 xn, .string xT, .int .i64 xr] 72 3
          have q4 : wr.heap.size < (wr.alloc (.cells #[.int .i64 xs, .int .i64 xn, .string xT, .int .i64 xr] 72)).heap.size := by simp
          go_region_held3 (fun U => U.cell? ⟨wr.heap.size, 0, none⟩ = some (.int .i64 xs) ∧ U.cell? ⟨wr.heap.size, 1, none⟩ = some (.int .i64 xn) ∧ U.cell? ⟨wr.heap.size, 2, none⟩ = some (.string xT) ∧ U.cell? ⟨wr.heap.size, 3, none⟩ = some (.int .i64 xr)) (go_keep)
            ((go_at_call 33; ((with_reducible refine (HID.out _).mono ?_); rintro e w4 ⟨rfl, u4⟩; have f0 := (Below.cell u4 (p := ⟨wr.heap.size, 0, none⟩) q4).trans q0; have f1 := (Below.cell u4 (p := ⟨wr.heap.size, 1, none⟩) q4).trans q1; have f2 := (Below.cell u4 (p := ⟨wr.heap.size, 2, none⟩) q4).trans q2; have f3 := (Below.cell u4 (p := ⟨wr.heap.size, 3, none⟩) q4).trans q3; have hlk := MapF.look (HUS.out.up (HU.out.trans ((Up.alloc _ _).trans ((Up.drew _).trans u4)))) _ HWF.out; rw [HUU.out] at hlk)))
          all_goals
            go_wp2_with fail
            go_ret
            exact ⟨by rw [HE.out]; rfl, HU.out.trans ((Up.alloc _ _).trans ((Up.drew _).trans u4))⟩
        | true =>
          have d3 : (xr != z) = false := by rw [bne, d2]; rfl
          go_wp2_with fail
          have q0 := World.cell?_alloc_new wr #[.int .i64 xs, .int .i64 xn, .string xT, .int .i64 xr] 72 0
          have q1 := World.cell?_alloc_new wr #[.int .i64 xs, .int .i64 xn, .string xT, .int .i64 xr] 72 1
          have q2 := World.cell?_alloc_new wr #[.int .i64 xs, .int .i64 xn, .string xT, .int .i64 xr] 72 2
          have q3 := World.cell?_alloc_new wr #[.int .i64 xs, .int .i64 xn, .string xT, .int .i64 xr] 72 3
          have q4 : wr.heap.size < (wr.alloc (.cells #[.int .i64 xs, .int .i64 xn, .string xT, .int .i64 xr] 72)).heap.size := by simp
          go_region_held3 (fun U => U.cell? ⟨wr.heap.size, 0, none⟩ = some (.int .i64 xs) ∧ U.cell? ⟨wr.heap.size, 1, none⟩ = some (.int .i64 xn) ∧ U.cell? ⟨wr.heap.size, 2, none⟩ = some (.string xT) ∧ U.cell? ⟨wr.heap.size, 3, none⟩ = some (.int .i64 xr)) (go_keep)
            ((go_at_call 33; ((with_reducible refine (HID.out _).mono ?_); rintro e w4 ⟨rfl, u4⟩; have f0 := (Below.cell u4 (p := ⟨wr.heap.size, 0, none⟩) q4).trans q0; have f1 := (Below.cell u4 (p := ⟨wr.heap.size, 1, none⟩) q4).trans q1; have f2 := (Below.cell u4 (p := ⟨wr.heap.size, 2, none⟩) q4).trans q2; have f3 := (Below.cell u4 (p := ⟨wr.heap.size, 3, none⟩) q4).trans q3; have hlk := MapF.look (HUS.out.up (HU.out.trans ((Up.alloc _ _).trans ((Up.drew _).trans u4)))) _ HWF.out; rw [HUU.out] at hlk)))
          all_goals
            have HU4 : Hid (Up w w4) := HU.out.trans ((Up.alloc _ _).trans ((Up.drew _).trans u4))
            clear f0 f1 f2 f3 q0 q1 q2 q3 q4 u4 hlk
            go_wp2_with fail
            go_roundw
            case rel => exact ⟨k + 1, by omega, by go_num, HU4.out, by rw [HT.out]; intro y hy; rw [List.mem_append] at hy; rcases hy with hy | hy; exact HALL.out y hy; simp at hy; subst hy; rw [HZ.out]; exact d2⟩
            case measure => simp only [intOf]; omega
    · have d1 : decide (k < l.length) = false := decide_eq_false hlt
      have hte : l.take k = l := List.take_of_length_le (by omega)
      rw [hte] at hall
      have HE : Hid (refE l all = 0) := by
        show _ = _
        unfold refE refsB
        rw [if_pos (List.all_eq_true.2 hall)]
      have HU := Lib.hid hu
      clear hall hu hte
      go_wp2_with fail
      go_ret
      exact ⟨by rw [HE.out]; rfl, HU.out⟩

end Go.Proofs.Ytjmmifanaffegaa
