/-
  What the reference's Unbytes returns, and the walk of the law PackBytes. Conditions: the second text has at most 2^44 bytes; one cell of the table deBruijn64tab.
-/
import Derived.Test.YtloiciinmdmdkaaGreatDoorRefPack1
namespace Go.Proofs.YtloiciinmdmdkaaGreatDoor
open Go.RowKit
open Go.Proofs
open WoolLz WoolPack

theorem no_ones (t : List UInt8) (h : al t = List.replicate (al t).length 48) : t.getLast? = none ∨ t.getLast? = some 0 := by
  by_cases hn : t.getLast? = none ∨ t.getLast? = some 0
  · exact hn
  · obtain ⟨p, z, e, _⟩ := al_split t hn
    exfalso
    have hm : (49 : UInt8) ∈ al t := by rw [e]; exact List.mem_append_right _ (List.mem_cons_self ..)
    rw [h] at hm
    exact absurd (List.eq_of_mem_replicate hm) (by decide)

theorem text_ne (a b : List UInt8) (h : a ≠ b) : ((bs a).toList == (bs b).toList) = false := by
  rw [ByteArray.toList_eq, ByteArray.toList_eq, bs_list, bs_list]
  exact beq_eq_false_iff_ne.2 h

theorem text_eq (s : ByteArray) : (s.toList == s.toList) = true := by simp

def RUnbRel (t : List UInt8) (w : World) (t4 t9 : Value) (wr : World) : Prop :=
  ∃ k : Nat, k ≤ t.length ∧ t9 = .int .i64 (k : Int) ∧ t4 = .string (bs (al (t.take k))) ∧ Up w wr

set_option maxRecDepth 100000 in
set_option maxHeartbeats 2000000 in
theorem rUnbytes_any (t : List UInt8) (w : World) (hl : t.length ≤ 17592186040320) :
    Calls Tryz.prog 20 #[.string (bs t)] w fun e w' => e = .returned (unbV t) ∧ Up w w' := by
  have hsz := bs_size t
  have hall := al_length t
  have HA : Hid ((bs (al t)).size < 4611686018427387904) := by show (bs (al t)).size < 4611686018427387904; rw [bs_size, hall]; omega
  have HAL : Hid (∀ k, (al (t.take k)).length ≤ 140737488322560) := by
    intro k
    rw [al_length, List.length_take]
    omega
  have HAN := Lib.hid hall
  obtain ⟨n, hn⟩ : ∃ n, t.length = n := ⟨_, rfl⟩
  have HN := Lib.hid hn
  rw [hn] at hsz hl
  have HST : Hid (RUnbRel t w (.string ⟨#[]⟩) (.int .i64 0) w) := ⟨0, by omega, rfl, rfl, Up.refl _⟩
  clear hall hn
  go_enter Tryz.func20, Tryz.ntmps20
  go_wp2
  go_loopw [4, 9] (RUnbRel t w) (fun _ i _ => n - (intOf i).toNat)
  case atStart => exact HST.out
  case round =>
    obtain ⟨k, hk, rfl, rfl, hu⟩ := hrel
    rw [HN.out] at hk
    by_cases hlt : k < n
    · have hkl : k < t.length := by rw [HN.out]; exact hlt
      have hi := index_bs t k hkl
      have hat := al_take t k hkl
      have hlt256 : (t[k]).toNat < 256 := UInt8.toNat_lt _
      obtain ⟨d, hd⟩ : ∃ d, t[k].toNat = d := ⟨_, rfl⟩
      rw [hd] at hi hat hlt256
      have hadd := add_bs (al (t.take k)) (b8 d) (by have := HAL.out k; rw [b8_length d hlt256]; omega)
      rw [← hat] at hadd
      have HU := Lib.hid hu
      clear hd hu hat hkl
      go_wp2_with fail
      refine (rByte_any d _ hlt256).mono ?_
      rintro e w2 ⟨rfl, u2⟩
      have HU2 := Lib.hid (HU.out.trans u2)
      clear u2
      go_wp2_with fail
      go_roundw
      case rel => exact ⟨k + 1, by rw [HN.out]; omega, by go_num, rfl, HU2.out⟩
      case measure => simp only [intOf]; omega
    · have hte : t.take k = t := List.take_of_length_le (by rw [HN.out]; omega)
      rw [hte]
      have HU := Lib.hid hu
      clear hte hu
      rcases last_one _ (al t) rfl (isB_al t) with e | ⟨p, z, e⟩
      · have hbad := no_ones t e
        have HV : Hid (unbV t = .tuple #[.string ⟨#[]⟩, .int .i64 3]) := by
          show _ = _
          unfold unbV unb
          rw [if_pos hbad]
          rfl
        have HLI : Hid (Lib.lastIndexByte (bs (al t)) 49 = -1) := by
          show _ = _
          rw [e]
          exact last_none _
        clear e hbad
        go_wp2_with fail
        refine (Tryz.strings_LastIndexByte (bs (al t)) 49 HA.out _).mono ?_
        rintro e w3 ⟨rfl, rfl⟩
        rw [HLI.out]
        go_wp2
        go_ret2
        exact ⟨by rw [HV.out]; rfl, HU.out⟩
      · have hlen := congrArg List.length e
        rw [HAN.out, HN.out, List.length_append, List.length_cons, List.length_replicate] at hlen
        have HLI : Hid (Lib.lastIndexByte (bs (al t)) 49 = (p.length : Int)) := by
          show _ = _
          rw [e]
          exact last_at p z
        have hto := to_bs (al t) (p.length : Int) p.length rfl (by rw [HAN.out, HN.out]; omega)
        have htk : (al t).take p.length = p := by rw [e, List.take_left]
        rw [htk] at hto
        have hpb : WoolBits.isB p = true := by
          have := isB_al t
          rw [e, WoolBits.isB_append, Bool.and_eq_true] at this
          exact this.1
        have HPB := Lib.hid hpb
        have HPL : Hid (p.length ≤ 140737488351232) := by show p.length ≤ 140737488351232; omega
        have hpn : decide ((p.length : Int) < 0) = false := by rw [decide_eq_false_iff_not]; omega
        have hsa : (bs (al t)).size = 8 * n := by rw [bs_size, HAN.out, HN.out]
        have hpn2 : p.length ≤ 8 * n := by omega
        clear htk hpb
        by_cases hbad : t.getLast? = none ∨ t.getLast? = some 0
        · have HV : Hid (unbV t = .tuple #[.string ⟨#[]⟩, .int .i64 3]) := by
            show _ = _
            unfold unbV unb
            rw [if_pos hbad]
            rfl
          have hne := text_ne _ _ (byts_not t p z e hbad)
          have hni := hlen
          clear e hbad hlen hni
          go_wp2_with fail
          refine (Tryz.strings_LastIndexByte (bs (al t)) 49 HA.out _).mono ?_
          rintro e w3 ⟨rfl, rfl⟩
          rw [HLI.out]
          go_wp2_with fail
          refine (rBytes_any p _ HPL.out HPB.out).mono ?_
          rintro e w4 ⟨rfl, u4⟩
          go_wp2
          go_ret2
          exact ⟨by rw [HV.out]; rfl, HU.out.trans u4⟩
        · obtain ⟨p', z', e', _, h3, _, h5⟩ := al_split t hbad
          have hpp : p' = p := by rw [← h3, e, ul_of]
          subst hpp
          have HV : Hid (unbV t = .tuple #[.string (bs p'), .int .i64 0]) := by
            show _ = _
            unfold unbV unb
            rw [if_neg hbad, h3]
            rfl
          have heq := text_eq (bs t)
          have H5 := Lib.hid h5
          clear e e' hbad hlen h3 h5
          go_wp2_with fail
          refine (Tryz.strings_LastIndexByte (bs (al t)) 49 HA.out _).mono ?_
          rintro e w3 ⟨rfl, rfl⟩
          rw [HLI.out]
          go_wp2_with fail
          refine (rBytes_any p' _ HPL.out HPB.out).mono ?_
          rintro e w4 ⟨rfl, u4⟩
          rw [H5.out]
          go_wp2
          go_ret2
          exact ⟨by rw [HV.out]; rfl, HU.out.trans u4⟩

end Go.Proofs.YtloiciinmdmdkaaGreatDoor
