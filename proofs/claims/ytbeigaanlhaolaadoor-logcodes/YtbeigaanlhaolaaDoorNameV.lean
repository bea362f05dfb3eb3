/-
  What vol's isNameByte and Name return. Conditions: as each says.
-/
import Derived.Test.YtbeigaanlhaolaaDoorBs
import Derived.Test.YtbeigaanlhaolaaDoorVolM
import Derived.BigRegion
namespace Go.Proofs.YtbeigaanlhaolaaDoor
open Go.RowKit
open Go.Proofs
open WoolBag
open WoolVol

theorem isName_any (c : UInt8) (w : World) : Calls Tryd.prog 20 #[.int .u8 ((c.toNat : Nat) : Int)] w fun e w' => e = .returned (.bool (nbB c)) ∧ w = w' := by
  have hv : nbB c = ((decide (97 ≤ c.toNat) && decide (c.toNat ≤ 122)) || (decide (48 ≤ c.toNat) && decide (c.toNat ≤ 57))) := rfl
  rw [hv]
  generalize c.toNat = z
  clear hv
  by_cases h1 : 97 ≤ z
  · by_cases h2 : z ≤ 122
    · go_enter Tryd.func20, Tryd.ntmps20
      go_wp2
      go_ret
      first | (simp; done) | (simp; constructor <;> omega) | (simp; omega)
    · by_cases h3 : 48 ≤ z
      · by_cases h4 : z ≤ 57
        · omega
        · have e : ((decide (97 ≤ z) && decide (z ≤ 122)) || (decide (48 ≤ z) && decide (z ≤ 57))) = false := by simp [h2, h4]
          rw [e]
          have d1 : decide ((z : Int) ≤ 57) = false := decide_eq_false (by omega)
          have d2 : decide ((z : Int) ≤ 122) = false := decide_eq_false (by omega)
          clear e
          go_enter Tryd.func20, Tryd.ntmps20
          go_wp2
          go_ret
          exact ⟨rfl, rfl⟩
      · omega
  · by_cases h3 : 48 ≤ z
    · by_cases h4 : z ≤ 57
      · go_enter Tryd.func20, Tryd.ntmps20
        go_wp2
        go_ret
        first | (simp; done) | (simp; constructor <;> omega) | (simp; omega)
      · go_enter Tryd.func20, Tryd.ntmps20
        go_wp2
        go_ret
        first | (simp; done) | (simp; constructor <;> omega) | (simp; omega)
    · go_enter Tryd.func20, Tryd.ntmps20
      go_wp2
      go_ret
      first | (simp; done) | (simp; constructor <;> omega) | (simp; omega)

def NameRel (s : List UInt8) (w : World) (i : Value) (wr : World) : Prop := ∃ k : Nat, k ≤ s.length ∧ i = .int .i64 k ∧ w = wr ∧ (s.take k).all nbB = true

set_option maxHeartbeats 400000 in
theorem name_any (s : List UInt8) (w : World) (hs : s.length ≤ 9223372036854775807) : Calls Tryd.prog 13 #[.string (bs s)] w fun e w' => e = .returned (.bool (nameB s)) ∧ w = w' := by
  have hsz := bs_size s
  by_cases h1 : s.length < 1
  · have hv : nameB s = false := by unfold nameB; simp; omega
    rw [hv]
    obtain ⟨n, hn⟩ : ∃ n, s.length = n := ⟨_, rfl⟩
    rw [hn] at hsz h1
    clear hn hv
    go_enter Tryd.func13, Tryd.ntmps13
    go_wp2
    go_ret
    exact ⟨rfl, rfl⟩
  by_cases h2 : 12 < s.length
  · have hv : nameB s = false := by unfold nameB; simp; omega
    rw [hv]
    obtain ⟨n, hn⟩ : ∃ n, s.length = n := ⟨_, rfl⟩
    rw [hn] at hsz h1 h2
    clear hn hv
    go_enter Tryd.func13, Tryd.ntmps13
    go_wp2
    go_ret
    exact ⟨rfl, rfl⟩
  have hv : nameB s = s.all nbB := by
    unfold nameB
    rw [decide_eq_true (by omega), decide_eq_true (by omega)]; simp
  rw [hv]
  clear hv
  obtain ⟨n, hn⟩ : ∃ n, s.length = n := ⟨_, rfl⟩
  have HN := Lib.hid hn
  rw [hn] at hsz h1 h2 hs
  clear hn
  go_enter Tryd.func13, Tryd.ntmps13
  go_wp2_with fail
  go_loopw [14] (fun i wr => NameRel s w i wr) (fun i _ => n - (intOf i).toNat)
  case atStart => exact ⟨0, Nat.zero_le _, rfl, rfl, rfl⟩
  case round =>
    obtain ⟨k, hk, rfl, rfl, hall⟩ := hrel
    rw [HN.out] at hk
    by_cases hlt : k < n
    · have hkl : k < s.length := by rw [HN.out]; exact hlt
      have hi := index_bs s k hkl
      have hst : (s.take (k + 1)).all nbB = nbB s[k] := by
        rw [List.take_succ_eq_append_getElem hkl, List.all_append, hall]; simp
      have hno : nbB s[k] = false → s.all nbB = false := by
        intro h
        cases ha : s.all nbB with
        | false => rfl
        | true => rw [List.all_eq_true] at ha; rw [ha _ (List.getElem_mem hkl)] at h; cases h
      have HST := Lib.hid hst
      have HNO := Lib.hid hno
      have HC := Lib.hid (fun W => isName_any s[k] W)
      clear hst hno hall
      generalize nbB s[k] = bb at *
      generalize (s[k].toNat : Nat) = z at *
      cases bb with
      | false =>
        have HF := Lib.hid (HNO.out rfl)
        go_wp2_with fail
        refine (HC.out _).mono ?_
        rintro e w1 ⟨rfl, rfl⟩
        go_wp2_with fail
        go_ret
        exact ⟨by rw [HF.out]; rfl, rfl⟩
      | true =>
        go_wp2_with fail
        refine (HC.out _).mono ?_
        rintro e w1 ⟨rfl, rfl⟩
        go_wp2_with fail
        go_roundw
        case rel => exact ⟨k + 1, by rw [HN.out]; omega, by go_num, rfl, HST.out⟩
        case measure => simp only [intOf]; omega
    · have hte : s.take k = s := List.take_of_length_le (by rw [HN.out]; omega)
      rw [hte] at hall
      have HF := Lib.hid hall
      clear hall hte
      go_wp2_with fail
      go_ret
      exact ⟨by rw [HF.out]; rfl, rfl⟩

end Go.Proofs.YtbeigaanlhaolaaDoor
