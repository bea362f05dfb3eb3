/-
  What Compare of package sync returns. Conditions: as each says.
-/
import Derived.Test.YtemineffflodcaaJListsOwn24
namespace Go.Proofs.Ytemineffflodcaa
open Go.RowKit
open Go.Proofs
open WoolTree

def cpE (a b : List (List UInt8)) : Int := if chkT a ≠ 0 then chkT a else if chkT b ≠ 0 then chkT b else if a.length ≠ b.length then 11 else 0
def cpV (a b : List (List UInt8)) : List Nat × Nat := if cpE a b = 0 then cm TH a.length a b 0 else ([], 0)

theorem cpE_ok {a b : List (List UInt8)} (h : cpE a b = 0) : chkT a = 0 ∧ chkT b = 0 ∧ a.length = b.length := by
  unfold cpE at h
  by_cases h1 : chkT a ≠ 0
  · rw [if_pos h1] at h; exact absurd h h1
  · rw [if_neg h1] at h
    by_cases h2 : chkT b ≠ 0
    · rw [if_pos h2] at h; exact absurd h h2
    · rw [if_neg h2] at h
      by_cases h3 : a.length ≠ b.length
      · rw [if_pos h3] at h; cases h
      · exact ⟨by omega, by omega, by omega⟩

def CmpPost (a b : List (List UInt8)) (w : World) (e : Ending) (w' : World) : Prop := ∃ v, e = .returned (.tuple #[v, .int .i64 ((cpV a b).2 : Int), .int .i64 (cpE a b)]) ∧ Ints w' w.heap.size v (cpV a b).1 ∧ Up w w'

set_option maxRecDepth 100000 in
set_option maxHeartbeats 1000000 in
theorem compareT_any (v1 v2 : Value) (a b : List (List UInt8)) (w : World) (h1 : Txs w v1 a) (h2 : Txs w v2 b) :
    Calls Try.prog 13 #[v1, v2] w (CmpPost a b w) := by
  have HC1 := Lib.hid (fun W (hW : Up w W) => checkT_any v1 a W (h1.up hW))
  have HC2 := Lib.hid (fun W (hW : Up w W) => checkT_any v2 b W (h2.up hW))
  have H1 := Lib.hid h1
  have H2 := Lib.hid h2
  obtain ⟨o1, c1, rfl, _, _⟩ := h1.slice
  obtain ⟨o2, c2, rfl, _, _⟩ := h2.slice
  by_cases ha : chkT a = 0
  · by_cases hb : chkT b = 0
    · rw [ha] at HC1
      rw [hb] at HC2
      by_cases hl : a.length = b.length
      · have hE : cpE a b = 0 := by unfold cpE; rw [if_neg (by rw [ha]; simp), if_neg (by rw [hb]; simp), if_neg (by omega)]
        have hV : cpV a b = cm TH a.length a b 0 := if_pos hE
        unfold CmpPost
        rw [hE, hV]
        have HCM := Lib.hid (fun W (hW : Up w W) => compare_any a.length a b _ _ 0 W (H1.out.up hW) (H2.out.up hW) ha hb hl (Nat.le_refl _) (by have := (chkT_ok ha).2.1; omega))
        unfold CpPost at HCM
        rw [← hl] at HCM HC2 ⊢
        generalize cm TH a.length a b 0 = r at *
        obtain ⟨r1, r2⟩ := r
        simp only at HCM ⊢
        generalize a.length = m at *
        have dm : ((m : Int) != (m : Int)) = false := by simp
        clear h1 h2 H1 H2 ha hb hl hE hV
        go_enter Try.func13, Try.ntmps13
        go_wp2_with fail
        refine (HC1.out _ (Up.refl _)).mono ?_
        rintro e w1 ⟨rfl, u1⟩
        have HU1 := Lib.hid u1
        clear u1
        go_wp2_with fail
        refine (HC2.out _ HU1.out).mono ?_
        rintro e w2 ⟨rfl, u2⟩
        have HU2 := Lib.hid (HU1.out.trans u2)
        clear u2
        go_wp2_with fail
        refine (HCM.out _ HU2.out).mono ?_
        rintro e w3 ⟨v3, rfl, hi3, u3⟩
        obtain ⟨o3, c3, hv3⟩ := hi3.shape
        subst hv3
        have HI3 := Lib.hid hi3
        have HU3 := Lib.hid (HU2.out.trans u3)
        clear hi3 u3
        go_wp2_with fail
        exact bodyPost_ret (v := .tuple #[.slice o3 r1.length c3, .int .i64 (r2 : Int), .int .i64 0]) (by simp [results, Try.results13, go_sem]) rfl ⟨_, rfl, own_baseT HI3.out HU2.out.size, HU3.out⟩
      · have hE : cpE a b = 11 := by unfold cpE; rw [if_neg (by rw [ha]; simp), if_neg (by rw [hb]; simp), if_pos hl]
        have hV : cpV a b = ([], 0) := by unfold cpV; rw [hE]; rfl
        unfold CmpPost
        rw [hE, hV]
        have dm : ((a.length : Int) != (b.length : Int)) = true := by rw [bne_iff_ne]; omega
        generalize a.length = m at *
        generalize b.length = n at *
        clear h1 h2 H1 H2 ha hb hl hE hV
        go_enter Try.func13, Try.ntmps13
        go_wp2_with fail
        refine (HC1.out _ (Up.refl _)).mono ?_
        rintro e w1 ⟨rfl, u1⟩
        have HU1 := Lib.hid u1
        clear u1
        go_wp2_with fail
        refine (HC2.out _ HU1.out).mono ?_
        rintro e w2 ⟨rfl, u2⟩
        have HU2 := Lib.hid (HU1.out.trans u2)
        clear u2
        go_wp2_with fail
        exact bodyPost_ret (v := .tuple #[.slice none 0 0, .int .i64 ((0 : Nat) : Int), .int .i64 11]) (by simp [results, Try.results13, go_sem]) rfl ⟨_, rfl, Ints.nil _ _, HU2.out⟩
    · have hE : cpE a b = chkT b := by unfold cpE; rw [if_neg (by rw [ha]; simp), if_pos hb]
      have hV : cpV a b = ([], 0) := by unfold cpV; rw [if_neg (by rw [hE]; exact hb)]
      unfold CmpPost
      rw [hE, hV]
      rw [ha] at HC1
      have hne : (chkT b != 0) = true := by rw [bne_iff_ne]; exact hb
      generalize chkT b = E at *
      generalize a.length = m at *
      generalize b.length = n at *
      clear h1 h2 H1 H2 ha hb hE hV
      go_enter Try.func13, Try.ntmps13
      go_wp2_with fail
      refine (HC1.out _ (Up.refl _)).mono ?_
      rintro e w1 ⟨rfl, u1⟩
      have HU1 := Lib.hid u1
      clear u1
      go_wp2_with fail
      refine (HC2.out _ HU1.out).mono ?_
      rintro e w2 ⟨rfl, u2⟩
      have HU2 := Lib.hid (HU1.out.trans u2)
      clear u2
      go_wp2_with fail
      exact bodyPost_ret (v := .tuple #[.slice none 0 0, .int .i64 ((0 : Nat) : Int), .int .i64 E]) (by simp [results, Try.results13, go_sem]) rfl ⟨_, rfl, Ints.nil _ _, HU2.out⟩
  · have hE : cpE a b = chkT a := by unfold cpE; rw [if_pos ha]
    have hV : cpV a b = ([], 0) := by unfold cpV; rw [if_neg (by rw [hE]; exact ha)]
    unfold CmpPost
    rw [hE, hV]
    have hne : (chkT a != 0) = true := by rw [bne_iff_ne]; exact ha
    generalize chkT a = E at *
    generalize a.length = m at *
    generalize b.length = n at *
    clear h1 h2 H1 H2 ha hE hV
    go_enter Try.func13, Try.ntmps13
    go_wp2_with fail
    refine (HC1.out _ (Up.refl _)).mono ?_
    rintro e w1 ⟨rfl, u1⟩
    have HU1 := Lib.hid u1
    clear u1
    go_wp2_with fail
    exact bodyPost_ret (v := .tuple #[.slice none 0 0, .int .i64 ((0 : Nat) : Int), .int .i64 E]) (by simp [results, Try.results13, go_sem]) rfl ⟨_, rfl, Ints.nil _ _, HU1.out⟩

end Go.Proofs.Ytemineffflodcaa
