/-
  The walk of the law GammaKraft. Condition: one cell of the table deBruijn64tab.
-/
import Derived.Test.YtjbedphofjdfkaaDoorGam
import Derived.Test.YtjbedphofjdfkaaDoorKraftM
import Derived.Test.YtjbedphofjdfkaaDoorWithin
import Derived.Deep.QuietTactic
import Derived.BigQuiet
namespace Go.Proofs.YtjbedphofjdfkaaDoor
open Go.RowKit
open Go.Proofs

theorem gam_two : bs (WoolBits.gam 2) = ⟨#[48, 49, 48]⟩ := by
  simp [WoolBits.gam, WoolBits.len_step 2 (by omega), WoolBits.len_small 1 (by omega), WoolBits.dg_step 2 (by omega), WoolBits.dg_small 1 (by omega), bs, WoolBits.bit]

theorem pw (a : Nat) (h : a ≤ 16) : wrap64 ((2 : Int) ^ a) = ((2 ^ a : Nat) : Int) ∧ 2 ^ a ≤ 65536 := by
  have h1 : 2 ^ a ≤ 2 ^ 16 := Nat.pow_le_pow_right (by omega) h
  rw [show ((2 : Int) ^ a) = ((2 ^ a : Nat) : Int) by simp]
  generalize 2 ^ a = x at *
  have h2 : x ≤ 65536 := Nat.le_trans h1 (by decide)
  exact ⟨by unfold wrap64; omega, h2⟩

theorem pw8 (a : Nat) (h : a ≤ 8) : 2 ^ a ≤ 256 := by
  have h1 : 2 ^ a ≤ 2 ^ 8 := Nat.pow_le_pow_right (by omega) h
  exact Nat.le_trans h1 (by decide)

def KRel (w : World) (K : Nat) (t5 t6 : Value) (wr : World) : Prop :=
  ∃ N : Nat, 1 ≤ N ∧ N ≤ 2 ^ K ∧ t6 = .int .i64 (N : Int) ∧ t5 = .int .i64 ((WoolBits.kr K N : Nat) : Int) ∧ Up w wr

set_option maxHeartbeats 400000 in
set_option maxRecDepth 100000 in
theorem gammaKraft_walk (a0 : Int) (w : World) (_w0 : (Lit.int .i64 a0).wf = true) (hT : Tab w) :
    Calls Tryd.prog 10 #[.int .i64 a0] w fun e w' => e = .returned (.bool true) ∧ Up w w' := by
  go_enter Tryd.func10, Tryd.ntmps10
  go_wp2_with fail
  refine (gamma_yes 2 _ (by omega) (by omega) hT).mono ?_
  rintro e w1 ⟨rfl, u1⟩
  rw [gam_two]
  go_wp2_with fail
  refine (within_any a0 8 _ (by omega) (by omega)).mono ?_
  rintro e w3 ⟨rfl, rfl⟩
  have hA := within_lt a0 (8 : Int).toNat (by decide)
  generalize within a0 (8 : Int).toNat = A0 at *
  rw [show (8 : Int).toNat = 8 from rfl] at hA
  obtain ⟨K, rK⟩ : ∃ K : Nat, (1 : Int) + (A0 : Int) = (K : Int) := ⟨1 + A0, by omega⟩
  have k1 : 1 ≤ K := by omega
  have k2 : K ≤ 8 := by omega
  clear hA
  go_wp2_with fail
  go_loopw [5, 6] (KRel w K) (fun _ t6 _ => 2 ^ K - (RowKit.intOf t6).toNat)
  case atStart => exact ⟨1, by omega, Nat.one_le_two_pow, rfl, rfl, u1⟩
  case round =>
    obtain ⟨N, n1, n2, rfl, rfl, hu⟩ := hrel
    have k3 : K ≤ 16 := by clear n2; omega
    have k4 : 2 * K ≤ 16 := by clear n2; omega
    have hE := (pw K k3).1
    have hP := pw8 K k2
    have hfin := WoolBits.kr_all K
    have hkb := WoolBits.kr_bound K N k2
    have hln0 : N < 2 ^ K → WoolBits.len N ≤ K := fun h => WoolBits.len_lt K N h k1
    obtain ⟨hQ, hQb⟩ := pw (2 * K) k4
    obtain ⟨Q, hQ2⟩ : ∃ Q, 2 ^ (2 * K) = Q := ⟨_, rfl⟩
    rw [hQ2] at hQ hQb hfin
    clear hQ2
    obtain ⟨E, hE2⟩ : ∃ E, 2 ^ K = E := ⟨_, rfl⟩
    rw [hE2] at hE hP n2 hfin hln0
    have HE2 := Lib.hid hE2
    clear hE2
    have HU := Lib.hid hu
    clear hu
    by_cases hlt : N < E
    · have hst := WoolBits.kr_step K N n1
      have hgl := WoolBits.gam_length N
      have hln := hln0 hlt
      clear hln0 hQ hQb
      have hlp := WoolBits.len_pos N
      obtain ⟨G, hG⟩ : ∃ G, (WoolBits.gam N).length = G := ⟨_, rfl⟩
      have hsz : (bs (WoolBits.gam N)).size = G := by rw [bs_size]; exact hG
      rw [hG] at hst hgl
      have gk : G ≤ 2 * K := by omega
      obtain ⟨D, hD⟩ : ∃ D : Nat, 2 * (K : Int) - (G : Int) = (D : Int) := ⟨2 * K - G, by omega⟩
      have hD2 : 2 * K - G = D := by omega
      rw [hD2] at hst
      obtain ⟨hF, hFb⟩ := pw D (by omega)
      obtain ⟨F, hF2⟩ : ∃ F, 2 ^ D = F := ⟨_, rfl⟩
      obtain ⟨S, hS⟩ : ∃ S, WoolBits.kr K N = S := ⟨_, rfl⟩
      rw [hS, hF2] at hst
      have HN := Lib.hid hst
      rw [hF2] at hF hFb
      rw [hS] at hkb
      rw [hS]
      clear hst hgl hln hlp hG hF2 hS hfin hD2
      have gk' : decide (2 * (K : Int) < (G : Int)) = false := by rw [decide_eq_false_iff_not]; omega
      go_wp2_with fail
      refine (gamma_yes N _ n1 (by omega) (hT.up HU.out)).mono ?_
      rintro e w5 ⟨rfl, u5⟩
      go_wp2_with fail
      go_roundw
      case rel => exact ⟨N + 1, by omega, by rw [HE2.out]; omega, by go_num, by rw [HN.out]; go_num, HU.out.trans u5⟩
      case measure => rw [HE2.out]; simp [intOf]; omega
    · clear hln0
      obtain rfl : N = E := by omega
      obtain ⟨S, hS⟩ : ∃ S, WoolBits.kr K N = S := ⟨_, rfl⟩
      rw [hS] at hfin hkb
      rw [hS]
      obtain ⟨M, hM⟩ : ∃ M, 2 * K = M := ⟨_, rfl⟩
      rw [hM] at hQ
      have hM2 : 2 * (K : Int) = (M : Int) := by omega
      have hM3 : IntKind.i64.wrap (M : Int) = (M : Int) := IntWalk.i64_in _ (by omega)
      have hd : (Q : Int) - (N : Int) = (S : Int) := by omega
      have hw : IntKind.i64.wrap (S : Int) = (S : Int) := IntWalk.i64_in _ (by omega)
      clear hS hfin hkb hM
      go_wp2_with fail
      go_quiet (fail)
      go_wp2
      go_ret
      exact ⟨rfl, HU.out.trans (Up.drewN _ _)⟩

end Go.Proofs.YtjbedphofjdfkaaDoor
