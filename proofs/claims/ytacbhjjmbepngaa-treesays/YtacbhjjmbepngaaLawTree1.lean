/-
  The laws TreeProves and TreeSteps, walked: for every list and all numbers the Go text returns true; nothing that was there turns. Conditions: as each says.
-/
import Derived.Test.YtacbhjjmbepngaaTreeF
namespace Go.Proofs.Ytacbhjjmbepngaa
open Go.RowKit
open Go.Proofs
open WoolTree

theorem prfV_ok {l : List (List UInt8)} {i : Nat} (hE : chkT l = 0) (hi : i < l.length) : prfE l (i : Int) = 0 ∧ prfV l (i : Int) = stI (prf TH (lh TH l) i) := by
  have h : prfE l (i : Int) = 0 := by unfold prfE; rw [if_neg (by rw [hE]; simp), if_neg (by omega)]
  exact ⟨h, by unfold prfV; rw [h, if_pos rfl, Int.toNat_natCast]⟩

theorem proves_plain {l : List (List UInt8)} {i : Nat} (hE : chkT l = 0) (hi : i < l.length) : verE (l.length : Int) (i : Int) l[i] = 0 ∧ verV (rootV l) (l.length : Int) (i : Int) l[i] (prfV l (i : Int)) = true := by
  obtain ⟨h0, h32, hs⟩ := chkT_ok hE
  have hv : verE (l.length : Int) (i : Int) l[i] = 0 := by
    unfold verE
    rw [if_neg (by omega), if_neg (by have := hs l[i] (List.getElem_mem hi); omega)]
  refine ⟨hv, ?_⟩
  unfold verV rootV
  rw [hv, if_pos rfl, if_pos hE, (prfV_ok hE hi).2, Int.toNat_natCast, Int.toNat_natCast]
  have := vf_pf TH (fun s => by have := TH_lt s; omega) 5 (lh TH l) i (by rw [lh_length]; exact hi) (by rw [lh_length]; exact h32) (lh_bound TH _ (fun s => by have := TH_lt s; omega) l)
  rw [lh_length] at this
  have e : (lh TH l).getD i 0 = TH (lf l[i]) := by
    unfold lh
    rw [List.getD_eq_getElem?_getD, List.getElem?_map, List.getElem?_eq_getElem hi]; rfl
  rw [e] at this
  exact this

set_option maxRecDepth 100000 in
set_option maxHeartbeats 1000000 in
theorem treeProves_walk (a0 : Option Addr) (len0 cap0 : Nat) (z0 : List (List UInt8)) (a1 : Int) (w : World) (w0 : Txs w (.slice a0 len0 cap0) z0) (_w1 : (Lit.int .i64 a1).wf = true) :
    Calls Try.prog 6 #[.slice a0 len0 cap0, .int .i64 a1] w fun e w' => e = .returned (.bool true) ∧ Up w w' := by
  have HLIT := Lib.hid (Txs.lit w [[97], [98]] 2 rfl (by omega))
  have HRC := Lib.hid (rootT_any _ _ _ HLIT.out)
  obtain ⟨hc0, hc1⟩ := root_ab
  rw [hc0] at HRC
  obtain ⟨c0, hcc⟩ : ∃ c, rootV [[97], [98]] = c := ⟨_, rfl⟩
  rw [hcc] at HRC hc1
  have dc : (c0 == 0) = false := by rw [beq_eq_false_iff_ne]; exact hc1
  have HW0 := Lib.hid w0
  have HR := Lib.hid (fun W (hW : Up w W) => rootT_any _ z0 W (w0.up hW))
  obtain ⟨hlen, hcap⟩ := w0.len
  by_cases hE : chkT z0 = 0
  · obtain ⟨h0, h32, hs⟩ := chkT_ok hE
    rw [hE] at HR
    have hI : within a1 z0.length < z0.length := within_lt a1 _ h0
    have HWI := Lib.hid (fun W => within_any a1 (z0.length : Int) W (by omega) (by omega))
    rw [Int.toNat_natCast] at HWI
    obtain ⟨I, hII⟩ : ∃ I, within a1 z0.length = I := ⟨_, rfl⟩
    rw [hII] at HWI hI
    have HP := Lib.hid (fun W (hW : Up w W) => proofT_any _ z0 (I : Int) W (w0.up hW))
    unfold PrPost at HP
    have hp5 : (prfV z0 (I : Int)).length ≤ 5 := by
      rw [(prfV_ok hE hI).2]
      unfold stI
      rw [List.length_map]
      exact pf_length TH 5 _ _
    have HV := Lib.hid (fun W v (hv : Stps W v (prfV z0 (I : Int))) => verify_any (rootV z0) (z0.length : Int) (I : Int) z0[I] v _ W hv)
    rw [(proves_plain hE hI).1, (proves_plain hE hI).2] at HV
    rw [(prfV_ok hE hI).1] at HP
    obtain ⟨b, off, rfl, hat⟩ := w0.at (fun e => by rw [e] at h0; simp at h0)
    have hcell := hat I hI
    have HC := Lib.hid hcell
    generalize z0[I] = t at *
    generalize rootV z0 = R at *
    generalize prfV z0 (I : Int) = P at *
    rw [← hlen] at HWI HV hI
    have hl63 : len0 ≤ 32 := by omega
    clear hE h0 h32 hs hlen w0 hat hcell hcc HLIT hII
    go_enter Try.func6, Try.ntmps6
    go_wp2_with fail
    refine HRC.out.mono ?_
    rintro e w1 ⟨rfl, u1⟩
    have HU1 := Lib.hid ((Up.alloc _ _).trans u1)
    clear u1
    go_wp2_with fail
    refine (HR.out _ HU1.out).mono ?_
    rintro e w2 ⟨rfl, u2⟩
    have HU2 := Lib.hid (HU1.out.trans u2)
    clear u2
    go_wp2_with fail
    refine (HWI.out _).mono ?_
    rintro e w3 ⟨rfl, rfl⟩
    go_wp2_with fail
    refine (HP.out _ HU2.out).mono ?_
    rintro e w3 ⟨v3, rfl, hst3, u3⟩
    have HS3 := Lib.hid hst3.stps
    obtain ⟨o3, c3, rfl, _, _⟩ := hst3.stps.slice
    obtain ⟨m, hm⟩ : ∃ m, P.length = m := ⟨_, rfl⟩
    rw [hm] at HS3 hp5 ⊢
    have d5 : decide ((m : Int) > 5) = false := decide_eq_false (by omega)
    have d5' : decide (5 < (m : Int)) = false := decide_eq_false (by omega)
    have HU3 := Lib.hid (HU2.out.trans u3)
    have q := (HU3.out.cell (World.block_lt_of_cell? w _ HC.out)).trans HC.out
    clear hst3 u3 hm
    go_wp2_with fail
    refine (HV.out _ _ HS3.out).mono ?_
    rintro e w4 ⟨rfl, u4⟩
    go_wp2_with fail
    go_ret
    exact ⟨rfl, HU3.out.trans u4⟩
  · have hne : (chkT z0 != 0) = true := by rw [bne_iff_ne]; exact hE
    have hr0 : rootV z0 = 0 := if_neg hE
    rw [hr0] at HR
    obtain ⟨E, hEE⟩ : ∃ E, chkT z0 = E := ⟨_, rfl⟩
    rw [hEE] at HR hne
    clear hE hr0 hEE hlen w0 HLIT hcc
    go_enter Try.func6, Try.ntmps6
    go_wp2_with fail
    refine HRC.out.mono ?_
    rintro e w1 ⟨rfl, u1⟩
    have HU1 := Lib.hid ((Up.alloc _ _).trans u1)
    clear u1
    go_wp2_with fail
    refine (HR.out _ HU1.out).mono ?_
    rintro e w2 ⟨rfl, u2⟩
    have HU2 := Lib.hid (HU1.out.trans u2)
    clear u2
    go_wp2_with fail
    go_ret
    exact ⟨rfl, HU2.out⟩

end Go.Proofs.Ytacbhjjmbepngaa
