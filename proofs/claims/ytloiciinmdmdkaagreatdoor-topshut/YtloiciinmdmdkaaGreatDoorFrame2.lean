/-
  What frame's Put returns, at every frame. No condition (the body: at most 2^47 - 4096 bytes).
-/
import Derived.Test.YtloiciinmdmdkaaGreatDoorFrame1
import Derived.Deep.RegionHeld3
import Derived.BigRegion
namespace Go.Proofs.YtloiciinmdmdkaaGreatDoor
open Go.RowKit
open Go.Proofs

/-- what Put answers, as the two results -/
def putR (k : Int) (b : List UInt8) : Value := .tuple #[.string (bs (putV k b).1), .int .i64 (((putV k b).2 : Nat) : Int)]

set_option maxRecDepth 100000 in
set_option maxHeartbeats 1000000 in
theorem put_any (k : Int) (b : List UInt8) (w : World) (hk : (Lit.int .i64 k).wf = true) (hbl : b.length ≤ 140737488351232) :
    Calls Tryz.prog 10 #[.agg #[.int .i64 k, .string (bs b)]] w fun e w' => e = .returned (putR k b) ∧ Up w w' := by
  have hsz := bs_size b
  by_cases h1 : k < 1
  · have HV : Hid (putR k b = .tuple #[.string ⟨#[]⟩, .int .i64 1]) := by
      show _ = _
      unfold putR putV
      rw [if_pos (Or.inl h1)]
      rfl
    clear hk hbl hsz
    go_enter Tryz.func10, Tryz.ntmps10
    go_wp2_with fail
    go_ret2
    exact ⟨by rw [HV.out]; rfl, Up.alloc _ _⟩
  by_cases h2 : 255 < k
  · have HV : Hid (putR k b = .tuple #[.string ⟨#[]⟩, .int .i64 1]) := by
      show _ = _
      unfold putR putV
      rw [if_pos (Or.inr h2)]
      rfl
    clear hk hbl hsz
    go_enter Tryz.func10, Tryz.ntmps10
    go_wp2_with fail
    go_ret2
    exact ⟨by rw [HV.out]; rfl, Up.alloc _ _⟩
  obtain ⟨K, rfl⟩ : ∃ K : Nat, k = (K : Int) := ⟨k.toNat, by omega⟩
  by_cases h3 : 700 < b.length
  · have HV : Hid (putR (K : Int) b = .tuple #[.string ⟨#[]⟩, .int .i64 2]) := by
      show _ = _
      unfold putR putV
      rw [if_neg (by omega), if_pos h3]
      rfl
    obtain ⟨n, hn⟩ : ∃ n, b.length = n := ⟨_, rfl⟩
    rw [hn] at hsz h3 hbl
    clear hk hn
    go_enter Tryz.func10, Tryz.ntmps10
    go_wp2_with fail
    go_ret2
    exact ⟨by rw [HV.out]; rfl, Up.alloc _ _⟩
  have HV : Hid (putR (K : Int) b = .tuple #[.string (bs (frm K b)), .int .i64 0]) := by
    show _ = _
    unfold putR putV
    rw [if_neg (by omega), if_neg h3]
    rfl
  have hadd1 := add_bs (nb K 1) (nb b.length 2) (by rw [nb_length, nb_length]; omega)
  have hadd2 := add_bs (nb K 1 ++ nb b.length 2) b (by rw [List.length_append, nb_length, nb_length]; omega)
  rw [show nb K 1 ++ nb b.length 2 ++ b = hb K b by unfold hb; rw [List.append_assoc]] at hadd2
  have hhl := hb_length K b
  have hf := fp30 (hb K b)
  have hadd3 := add_bs (hb K b) (nb (fp 1073741907 (hb K b)) 4) (by rw [hhl, nb_length]; omega)
  rw [show hb K b ++ nb (fp 1073741907 (hb K b)) 4 = frm K b from rfl] at hadd3
  have HHL : Hid ((hb K b).length ≤ 1000) := by show (hb K b).length ≤ 1000; omega
  obtain ⟨A1, hA1⟩ : ∃ A, nb K 1 = A := ⟨_, rfl⟩
  obtain ⟨n, hn⟩ : ∃ n, b.length = n := ⟨_, rfl⟩
  rw [hn] at hsz hbl h3 hadd1 hadd2
  obtain ⟨A2, hA2⟩ : ∃ A, nb n 2 = A := ⟨_, rfl⟩
  obtain ⟨H, hH⟩ : ∃ H, hb K b = H := ⟨_, rfl⟩
  rw [hH] at hadd2 hadd3 HHL hf
  obtain ⟨F, hF⟩ : ∃ F, fp 1073741907 H = F := ⟨_, rfl⟩
  rw [hF] at hadd3 hf
  obtain ⟨A4, hA4⟩ : ∃ A, nb F 4 = A := ⟨_, rfl⟩
  rw [hA4] at hadd3
  rw [hA1, hA2] at hadd1 hadd2
  obtain ⟨A3, hA3⟩ : ∃ A, A1 ++ A2 = A := ⟨_, rfl⟩
  rw [hA3] at hadd1 hadd2
  have HA1 := Lib.hid hA1
  have HA2 := Lib.hid hA2
  have HA4 := Lib.hid hA4
  have HF := Lib.hid hF
  clear hA1 hA2 hA3 hA4 hF hhl hk hn hH
  go_enter Tryz.func10, Tryz.ntmps10
  go_wp2_with fail
  have q0 := World.cell?_alloc_new w #[.int .i64 (K : Int), .string (bs b)] 31 0
  have q1 := World.cell?_alloc_new w #[.int .i64 (K : Int), .string (bs b)] 31 1
  have q2 : w.heap.size < (w.alloc (.cells #[.int .i64 (K : Int), .string (bs b)] 31)).heap.size := by simp
  go_region_held3 (fun W => W.cell? ⟨w.heap.size, 0, none⟩ = some (.int .i64 (K : Int)) ∧ W.cell? ⟨w.heap.size, 1, none⟩ = some (.string (bs b))) (go_keep) (first
    | (go_at_call 24; ((with_reducible refine (number1 K _ (by omega)).mono ?_); rintro e w4 ⟨rfl, u4⟩; rw [HA1.out]; have f0 := (Below.cell u4 (p := ⟨w.heap.size, 0, none⟩) (by first | exact g2 | exact q2)).trans (by first | exact g0 | exact q0); have f1 := (Below.cell u4 (p := ⟨w.heap.size, 1, none⟩) (by first | exact g2 | exact q2)).trans (by first | exact g1 | exact q1); have f2 := Nat.lt_of_lt_of_le (by first | exact g2 | exact q2) u4.size))
    | (go_at_call 24; ((with_reducible refine (number2 n _ (by omega)).mono ?_); rintro e w5 ⟨rfl, u5⟩; rw [HA2.out]; have g0 := (Below.cell u5 (p := ⟨w.heap.size, 0, none⟩) (by first | exact f2 | exact q2)).trans (by first | exact f0 | exact q0); have g1 := (Below.cell u5 (p := ⟨w.heap.size, 1, none⟩) (by first | exact f2 | exact q2)).trans (by first | exact f1 | exact q1); have g2 := Nat.lt_of_lt_of_le (by first | exact f2 | exact q2) u5.size)))
  all_goals
    go_wp2_with fail
    refine (fingerprint_any H _ HHL.out).mono ?_
    rintro e w6 ⟨rfl, u6⟩
    rw [HF.out]
    go_wp2_with fail
    refine (number4 F _ (by omega)).mono ?_
    rintro e w7 ⟨rfl, u7⟩
    rw [HA4.out]
    go_wp2_with fail
    go_ret2
    exact ⟨by rw [HV.out]; rfl, by first | exact (Up.alloc _ _).trans (((((Up.drew _).trans u4).trans u5).trans u6).trans u7) | exact (Up.alloc _ _).trans (((((Up.drew _).trans u5).trans u4).trans u6).trans u7)⟩

end Go.Proofs.YtloiciinmdmdkaaGreatDoor
