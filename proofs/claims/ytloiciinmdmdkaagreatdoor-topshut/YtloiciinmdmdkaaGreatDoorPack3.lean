/-
  What pack's Unbytes returns. Conditions: a text of at most 2^44 bytes; one cell of the table deBruijn64tab.
-/
import Derived.Test.YtloiciinmdmdkaaGreatDoorPack2
namespace Go.Proofs.YtloiciinmdmdkaaGreatDoor
open Go.RowKit
open Go.Proofs
open WoolLz WoolPack

theorem bs_bang (l : List UInt8) (j : Nat) (h : j < l.length) : (bs l).data[j]! = l[j] := by
  have h' : j < (bs l).data.size := by simpa [bs] using h
  rw [getElem!_pos _ j h']
  simp [bs]

/-- where the last 1 stands -/
theorem last_at (p : List UInt8) (z : Nat) : Lib.lastIndexByte (bs (p ++ 49 :: List.replicate z 48)) 49 = (p.length : Int) := by
  have hlen : (p ++ 49 :: List.replicate z 48).length = p.length + 1 + z := by simp; omega
  have hp : (p ++ 49 :: List.replicate z 48)[p.length]'(by omega) = 49 := by
    rw [List.getElem_append_right (by omega)]; simp
  unfold Lib.lastIndexByte
  rcases Lib.lastIdx_spec (bs (p ++ 49 :: List.replicate z 48)) 49 (bs (p ++ 49 :: List.replicate z 48)).size with ⟨_, h⟩ | ⟨i, hi, e, h1, h2⟩
  · exfalso
    have := h p.length (by rw [bs_size]; omega)
    rw [bs_bang _ _ (by omega), hp] at this
    exact this rfl
  · rw [e]
    rw [bs_size, hlen] at hi
    rcases Nat.lt_trichotomy i p.length with hlt | heq | hgt
    · exfalso
      have := h2 p.length hlt (by rw [bs_size]; omega)
      rw [bs_bang _ _ (by omega), hp] at this
      exact this rfl
    · rw [heq]
    · exfalso
      rw [bs_bang _ _ (by omega), List.getElem_append_right (by omega)] at h1
      obtain ⟨m, hm⟩ : ∃ m, i - p.length = m + 1 := ⟨i - p.length - 1, by omega⟩
      simp only [hm, List.getElem_cons_succ, List.getElem_replicate] at h1
      exact absurd h1 (by decide)

/-- zeros alone hold no 1 -/
theorem last_none (n : Nat) : Lib.lastIndexByte (bs (List.replicate n 48)) 49 = -1 := by
  unfold Lib.lastIndexByte
  rcases Lib.lastIdx_spec (bs (List.replicate n 48)) 49 (bs (List.replicate n 48)).size with ⟨h, _⟩ | ⟨i, hi, _, h1, _⟩
  · exact h
  · exfalso
    rw [bs_size] at hi
    rw [bs_bang _ _ hi, List.getElem_replicate] at h1
    exact absurd h1 (by decide)

theorem al_take (t : List UInt8) (k : Nat) (h : k < t.length) : al (t.take (k + 1)) = al (t.take k) ++ b8 t[k].toNat := by
  rw [List.take_succ_eq_append_getElem h, al_append]
  show _ ++ (b8 _ ++ []) = _
  rw [List.append_nil]

/-- what Unbytes answers -/
def unbV (t : List UInt8) : Value := .tuple #[.string (bs (unb t).1), .int .i64 (((unb t).2 : Nat) : Int)]

def UnbRel (t : List UInt8) (w : World) (i : Value) (wr : World) : Prop :=
  ∃ k : Nat, k ≤ t.length ∧ i = .int .i64 (k : Int) ∧ Bld wr w.heap.size w.heap.size (al (t.take k)) ∧ Up w wr

set_option maxRecDepth 100000 in
set_option maxHeartbeats 1000000 in
theorem unbytesP_any (t : List UInt8) (w : World) (hl : t.length ≤ 17592186040320) (hT : Tab w) :
    Calls Tryz.prog 65 #[.string (bs t)] w fun e w' => e = .returned (unbV t) ∧ Up w w' := by
  by_cases hn : t.getLast? = none ∨ t.getLast? = some 0
  · have HV : Hid (unbV t = .tuple #[.string ⟨#[]⟩, .int .i64 3]) := by
      show _ = _
      unfold unbV unb
      rw [if_pos hn]
      rfl
    by_cases h0 : t = []
    · subst h0
      rw [show bs [] = ⟨#[]⟩ from rfl]
      clear hn
      go_enter Tryz.func65, Tryz.ntmps65
      go_wp2
      go_ret2
      exact ⟨by rw [HV.out]; rfl, Up.refl _⟩
    · have hpos : 0 < t.length := List.length_pos_iff.2 h0
      obtain ⟨m, hm⟩ : ∃ m, t.length = m + 1 := ⟨t.length - 1, by omega⟩
      have hlast : t[m]'(by omega) = 0 := by
        rcases hn with h | h
        · exact absurd (List.getLast?_eq_none_iff.1 h) h0
        · rw [List.getLast?_eq_getElem?] at h
          rw [show t.length - 1 = m by omega, List.getElem?_eq_getElem (by omega)] at h
          exact Option.some.inj h
      have hne := not_empty t hpos
      have hi := index_bs t m (by omega)
      rw [hlast, show (((0 : UInt8).toNat : Nat) : Int) = 0 from rfl] at hi
      have hsz := bs_size t
      rw [hm] at hsz hl
      clear hn h0 hpos hlast hm
      go_enter Tryz.func65, Tryz.ntmps65
      go_wp2
      go_ret2
      exact ⟨by rw [HV.out]; rfl, Up.refl _⟩
  · obtain ⟨p, z, e, hz, h3, h4, h5⟩ := al_split t hn
    have HV : Hid (unbV t = .tuple #[.string (bs p), .int .i64 0]) := by
      show _ = _
      unfold unbV unb
      rw [if_neg hn, h3]
      rfl
    have h0 : t ≠ [] := fun e => hn (.inl (by rw [e]; rfl))
    have hpos : 0 < t.length := List.length_pos_iff.2 h0
    obtain ⟨m, hm⟩ : ∃ m, t.length = m + 1 := ⟨t.length - 1, by omega⟩
    have hlast : ¬ (t[m]'(by omega)).toNat = 0 := by
      intro h
      apply hn
      right
      rw [List.getLast?_eq_getElem?, show t.length - 1 = m by omega, List.getElem?_eq_getElem (by omega)]
      exact congrArg some (UInt8.toNat_inj.1 h)
    have hne := not_empty t hpos
    have hi := index_bs t m (by omega)
    have hsz := bs_size t
    obtain ⟨c, hc⟩ : ∃ c, (t[m]'(by omega)).toNat = c := ⟨_, rfl⟩
    rw [hc] at hi hlast
    have hcz : ((c : Int) == 0) = false := by simp; omega
    have hall := al_length t
    have hlen := congrArg List.length e
    rw [hall, List.length_append, List.length_cons, List.length_replicate] at hlen
    have HLI : Hid (Lib.lastIndexByte (bs (al t)) 49 = (p.length : Int)) := by
      show _ = _
      rw [e]
      exact last_at p z
    have hto := to_bs (al t) (p.length : Int) p.length rfl (by omega)
    have htk : (al t).take p.length = p := by rw [e, List.take_left]
    rw [htk] at hto
    have HA : Hid ((bs (al t)).size < 4611686018427387904) := by show (bs (al t)).size < 4611686018427387904; rw [bs_size, hall]; omega
    have HAL : Hid (∀ k, k ≤ m + 1 → (al (t.take k)).length + 8 ≤ 140737488355328) := by
      intro k hk
      rw [al_length, List.length_take]
      omega
    have HM := Lib.hid hm
    rw [hm] at hsz
    have hm2 : m ≤ 17592186040320 := by omega
    clear hn h3 h4 h5 h0 hpos hlast hc hall hlen htk e hm hl
    go_enter Tryz.func65, Tryz.ntmps65
    have HST := Lib.hid (Bld.start w)
    go_wp2_with fail
    go_loopw [19] (UnbRel t w) (fun i _ => m + 1 - (intOf i).toNat)
    case atStart => exact ⟨0, Nat.zero_le _, rfl, HST.out, Up.alloc _ _⟩
    case round =>
      obtain ⟨k, hk, rfl, hb, hu⟩ := hrel
      rw [HM.out] at hk
      by_cases hlt : k < m + 1
      · have hkl : k < t.length := by rw [HM.out]; exact hlt
        have hi2 := index_bs t k hkl
        have hat := al_take t k hkl
        have hlt256 : (t[k]).toNat < 256 := UInt8.toNat_lt _
        obtain ⟨d, hd⟩ : ∃ d, t[k].toNat = d := ⟨_, rfl⟩
        rw [hd] at hi2 hat hlt256
        have HB := Lib.hid hb
        have HU := Lib.hid hu
        have HAT := Lib.hid hat
        have HLE := Lib.hid (HAL.out k (by omega))
        have H8 := Lib.hid (b8_length d hlt256)
        clear hd hb hu hat hkl hi
        go_wp2_with fail
        refine (eight_any d _ hlt256 (hT.up HU.out)).mono ?_
        rintro e w2 ⟨rfl, u2⟩
        have HB2 := Lib.hid (HB.out.up u2)
        have HU2 := Lib.hid (HU.out.trans u2)
        have hsz2 := HU2.out.size
        clear u2 HB
        go_wp2_with fail
        refine (bwrite _ _ _ _ _ HB2.out (by have := HLE.out; have := H8.out; omega) hsz2).mono ?_
        rintro e w3 ⟨rfl, hb3, u3⟩
        rw [← HAT.out] at hb3
        have HB3 := Lib.hid hb3
        have HU3 := Lib.hid (show Up w w3 from Below.trans HU2.out u3)
        clear hb3 u3
        go_wp2_with fail
        go_roundw
        case rel => exact ⟨k + 1, by rw [HM.out]; omega, by go_num, HB3.out, HU3.out⟩
        case measure => simp only [intOf]; omega
      · have hb' := hb
        rw [List.take_of_length_le (by rw [HM.out]; omega)] at hb'
        have HB := Lib.hid hb'
        have HU := Lib.hid hu
        have hsz2 := hu.size
        clear hb hb' hu hi
        go_wp2_with fail
        refine (bstring _ _ _ _ HB.out hsz2).mono ?_
        rintro e w2 ⟨rfl, u2⟩
        have HU2 := Lib.hid (show Up w w2 from Below.trans HU.out u2)
        clear u2
        go_wp2_with fail
        refine (Tryz.strings_LastIndexByte (bs (al t)) 49 HA.out _).mono ?_
        rintro e w3 ⟨rfl, rfl⟩
        rw [HLI.out]
        go_wp2
        go_ret2
        exact ⟨by rw [HV.out]; rfl, HU2.out⟩

end Go.Proofs.YtloiciinmdmdkaaGreatDoor
