/-
  The law SegEnds: where nothing is used, cleaning removes all segments. Condition: the row of records can be read.
-/
import Derived.Test.YtalbfhoffhhjmaaSegR
import Derived.Test.YtalbfhoffhhjmaaSegS
import Derived.Deep.QuietTactic
import Derived.BigQuiet
namespace Go.Proofs.Ytalbfhoffhhjmaa
open Go.RowKit
open Go.Proofs
open WoolBag
open WoolSeg

def EnRel (w : World) (out n : Value) (wr : World) : Prop :=
  ∃ L : List (List Rc), n = .int .i64 ((L.length : Nat) : Int) ∧ L.length ≤ 16 ∧ Sgs wr out L ∧ Right L ∧ Up w wr

/-- clean with no bag -/
theorem clean_bare (v : Value) (L : List (List Rc)) (w : World) (h : Sgs w v L) (hr : Right L) : Calls Try.prog 11 #[v, .slice none 0 0] w (PutSPost w (L.tail, if L = [] then 4 else 0)) := by
  have h1 := cleanS_any v (.slice none 0 0) L [] w h (Items.nil w) (Right.small hr)
  have e : WoolSeg.clean FP L [] = (L.tail, if L = [] then 4 else 0) := by
    by_cases hn : L = []
    · subst hn; rw [clean_none Bag.nil, if_pos rfl]; rfl
    · rw [bare_clean hr hn, if_neg hn]
  rw [e] at h1
  exact h1

set_option maxRecDepth 100000 in
set_option maxHeartbeats 4000000 in
theorem segEnds_walk (a0 : Option Addr) (len0 cap0 : Nat) (z0 : List Rc) (w : World) (w0 : Recs w (.slice a0 len0 cap0) z0) :
    Calls Try.prog 5 #[.slice a0 len0 cap0] w fun e w' => e = .returned (.bool true) ∧ Up w w' := by
  have HF1 : Hid (∀ W : World, Calls Try.prog 8 #[.slice (some ⟨W.heap.size, 0, none⟩) 1 1] (W.alloc (.cells #[.bool true, .int .i64 0, .int .i64 0, .string ⟨#[97]⟩] 30)) (SgPost (W.alloc (.cells #[.bool true, .int .i64 0, .int .i64 0, .string ⟨#[97]⟩] 30)) [[((true, 0, 0), [97])]])) := fun W => by
    have h1 := fits_any _ [((true, 0, 0), [97])] _ (recs_new W ((true, 0, 0), [97])).recs
    rw [fits_one (by rfl)] at h1
    exact h1
  have HF2 := Lib.hid (fun W (hW : Up w W) => fits_any _ z0 W (w0.up hW))
  have HR2 := Lib.hid (fits_right z0)
  generalize fits z0 = L2 at HF2 HR2
  clear w0
  go_enter Try.func5, Try.ntmps5
  go_wp2_with fail
  refine (HF1.out _).mono ?_
  rintro e w1 ⟨v1, rfl, ho1, u1⟩
  have HU1 : Hid (Up w w1) := (Up.alloc _ _).trans u1
  have HC1 := Lib.hid (clean_bare v1 _ w1 ho1.sgs (Right.one (r := ((true, 0, 0), [97])) (by rfl)))
  obtain ⟨o1, c1, hv1, _, _⟩ := ho1.sgs.slice
  rw [List.length_singleton] at hv1
  subst hv1
  clear ho1 u1
  go_wp2_with fail
  refine HC1.out.mono ?_
  rintro e w2 ⟨v2, rfl, ho2, u2⟩
  have HU2 : Hid (Up w w2) := HU1.out.trans u2
  obtain ⟨o2, c2, hv2, _, _⟩ := ho2.sgs.slice
  rw [show ([[((true, 0, 0), [97])]] : List (List Rc)).tail.length = 0 from rfl] at hv2
  subst hv2
  rw [if_neg (by simp)]
  clear ho2 u2
  go_wp2_with fail
  refine (HF2.out _ HU2.out).mono ?_
  rintro e w3 ⟨v3, rfl, ho3, u3⟩
  have HU3 : Hid (Up w w3) := HU2.out.trans u3
  have HST : Hid (EnRel w v3 (.int .i64 ((L2.length : Nat) : Int)) w3) := ⟨L2, rfl, HR2.out.len, ho3.sgs, HR2.out, HU3.out⟩
  obtain ⟨o3, c3, hv3, _, _⟩ := ho3.sgs.slice
  obtain ⟨n2, hn2⟩ : ∃ n2, L2.length = n2 := ⟨_, rfl⟩
  rw [hn2] at HST hv3
  subst hv3
  clear ho3 u3 hn2
  go_wp2_with fail
  go_loopw [3, 6] (fun out n wr => EnRel w out n wr) (fun _ n _ => (intOf n).toNat)
  case atStart => exact HST.out
  case round =>
    obtain ⟨L, rfl, hl16, hs, hr, hu⟩ := hrel
    have HC := Lib.hid (clean_bare u3 L wr hs hr)
    obtain ⟨oL, cL, hvL, _, _⟩ := hs.slice
    have HU := Lib.hid hu
    by_cases hn : L = []
    · subst hn
      rw [if_pos rfl] at HC
      rw [List.length_nil] at hvL ⊢
      subst hvL
      clear hs hr hu
      go_wp2_with fail
      refine HC.out.mono ?_
      rintro e w4 ⟨v4, rfl, ho4, u4⟩
      have HU4 := Lib.hid (HU.out.trans u4)
      obtain ⟨o4, c4, hv4, _, _⟩ := ho4.sgs.slice
      rw [show ([] : List (List Rc)).tail.length = 0 from rfl] at hv4
      subst hv4
      clear ho4 u4
      go_wp2_with fail
      go_ret
      exact ⟨rfl, HU4.out⟩
    · rw [if_neg hn] at HC
      have hpos := List.length_pos_iff.2 hn
      obtain ⟨m, hm⟩ : ∃ m, L.length = m + 1 := ⟨L.length - 1, by omega⟩
      have htl : L.tail.length = m := by rw [List.length_tail, hm]; rfl
      have HNX : Hid (∀ nx wF, Up wr wF → Sgs wF nx L.tail → EnRel w nx (.int .i64 ((m : Nat) : Int)) wF) := fun nx wF hF hS => ⟨L.tail, by rw [htl], by omega, hS, hr.tail, HU.out.trans hF⟩
      have HTL := Lib.hid htl
      rw [hm] at hvL ⊢
      have hm15 : m ≤ 15 := by omega
      have p1 : ((m + 1 : Nat) : Int) - 1 = (m : Int) := by omega
      have p2 : (m : Int) + 1 - 1 = (m : Int) := by omega
      have d1 : decide ((0 : Int) < ((m + 1 : Nat) : Int)) = true := decide_eq_true (by omega)
      subst hvL
      clear hs hr hu hpos htl hm hn
      go_wp2_with fail
      refine HC.out.mono ?_
      rintro e w4 ⟨v4, rfl, ho4, u4⟩
      have HN4 := Lib.hid (HNX.out _ _ u4 ho4.sgs)
      obtain ⟨o4, c4, hv4, _, _⟩ := ho4.sgs.slice
      rw [HTL.out] at hv4
      subst hv4
      clear ho4 u4
      go_wp2_with fail
      exact ⟨HN4.out, by simp only [intOf]; omega⟩

end Go.Proofs.Ytalbfhoffhhjmaa
