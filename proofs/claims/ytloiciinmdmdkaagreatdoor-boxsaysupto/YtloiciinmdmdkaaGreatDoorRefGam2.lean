/-
  What the reference's GammaOf and DeltaOf return: what the plain readers say. Condition: a text of at most 2^48 bytes.
-/
import Derived.Test.YtloiciinmdmdkaaGreatDoorRefGam
import Derived.Test.YtloiciinmdmdkaaGreatDoorGam2
import Derived.Test.YtloiciinmdmdkaaGreatDoorBinM2
namespace Go.Proofs.YtloiciinmdmdkaaGreatDoor
open Go.RowKit
open Go.Proofs

/-- the capacity that a conversion to bytes takes -/
noncomputable def bcap (l : List UInt8) (w : World) : Nat := grownCap w (bs l).size 0 5

/-- the world behind a conversion of a text to bytes -/
noncomputable def bworld (l : List UInt8) (w : World) : World :=
  w.drew.alloc (.cells (bytesRow (bs l) (bcap l w)) 5 ((bytesRow (bs l) (bcap l w)).size, (bytesRow (bs l) (bcap l w)).size + 1))

theorem to_bytes (l : List UInt8) : ∀ W : World, (convert 9 34 (.string (bs l))).run Tryz.prog W = .ok (.slice (some ⟨W.heap.size, 0, none⟩) l.length (bcap l W)) (bworld l W) := fun W => by
  rw [run_bytes_of_string W 9 34 5 (bs l) Tryz.underlying9 Tryz.underlying34 Tryz.underlying5]
  rw [bs_size]
  unfold bworld bcap
  rw [bs_size]

theorem bworld_up (l : List UInt8) (w : World) : Up w (bworld l w) := (Up.drew w).trans (Up.alloc _ _)

theorem bworld_cell (l : List UInt8) (w : World) (j : Nat) (h : j < l.length) : (bworld l w).cell? ⟨w.heap.size, j, none⟩ = some (.int .u8 ((l[j].toNat : Nat) : Int)) := by
  have h1 : (bytesRow (bs l) (bcap l w))[j]? = some (.int .u8 ((l[j].toNat : Nat) : Int)) := by
    have hj : j < (bs l).data.size := by simpa [bs] using h
    rw [bytesRow_at (bs l) _ j hj]
    simp [bs]
  unfold bworld
  rw [show w.heap.size = w.drew.heap.size from rfl, World.cell?_alloc_mark]
  exact h1

theorem and_one_u8 (c : Nat) (h : c = 48 ∨ c = 49) : bits BinOp.and IntKind.u8 (c : Int) 1 = ((c - 48 : Nat) : Int) := by
  rcases h with rfl | rfl <;> decide +kernel

def ZerosRel (l : List UInt8) (t5 : Value) : Prop := ∃ k : Nat, k ≤ WoolBits.zs l ∧ t5 = .int .i64 (k : Int)

theorem zs_at (l : List UInt8) (k : Nat) (hk : k < WoolBits.zs l) : ∃ h : k < l.length, l[k] = 48 := by
  induction l generalizing k with
  | nil => simp [WoolBits.zs] at hk
  | cons c l ih =>
    by_cases hc : c = 48
    · subst hc
      rw [WoolBits.zs_cons_zero] at hk
      cases k with
      | zero => exact ⟨by simp, rfl⟩
      | succ k =>
        obtain ⟨h1, h2⟩ := ih k (by omega)
        exact ⟨by simpa using h1, by simpa using h2⟩
    · unfold WoolBits.zs at hk
      rw [List.takeWhile_cons, if_neg (by simpa using hc)] at hk
      simp at hk

theorem zs_end (l : List UInt8) (h : WoolBits.zs l < l.length) : l[WoolBits.zs l].toNat ≠ 48 := by
  induction l with
  | nil => simp at h
  | cons c l ih =>
    by_cases hc : c = 48
    · subst hc
      have e := WoolBits.zs_cons_zero l
      have h' : WoolBits.zs l < l.length := by rw [e] at h; simpa using h
      have e2 : (48 :: l)[WoolBits.zs (48 :: l)] = l[WoolBits.zs l] := by
        simp only [e]; simp
      rw [e2]
      exact ih h'
    · have e : WoolBits.zs (c :: l) = 0 := by
        unfold WoolBits.zs
        rw [List.takeWhile_cons, if_neg (by simpa using hc)]
        rfl
      have e2 : (c :: l)[WoolBits.zs (c :: l)] = c := by simp only [e]; simp
      rw [e2]
      exact fun hh => hc (UInt8.toNat_inj.1 hh)

def ReadRel (a : Nat) (T : List UInt8) (t6 t40 : Value) : Prop :=
  ∃ k : Nat, k ≤ T.length ∧ t40 = .int .i64 (k : Int) ∧ t6 = .int .i64 ((WoolBits.val a (T.take k) : Nat) : Int)

set_option maxHeartbeats 2000000 in
theorem rGammaOf_any (l : List UInt8) (w : World) (hl : l.length ≤ 281474976710656) :
    Calls Tryz.prog 44 #[.string (bs l)] w fun e w' => e = .returned (three (WoolBits.rg l)) ∧ Up w w' := by
  have hsz := bs_size l
  have hzl := WoolBits.zs_le l
  by_cases hb : WoolBits.isB l = false
  · have e0 : WoolBits.rg l = (0, 0, 3) := by unfold WoolBits.rg; rw [if_pos hb]
    rw [e0]
    have HB := Lib.hid hb
    clear hb e0
    go_enter Tryz.func44, Tryz.ntmps44
    go_wp2_with fail
    refine (rBits_any l _ hl).mono ?_
    rintro e w1 ⟨rfl, rfl⟩
    rw [HB.out]
    go_wp2
    go_ret3
    exact ⟨rfl, Up.refl _⟩
  · have hb' : WoolBits.isB l = true := by simpa using hb
    have HB := Lib.hid hb'
    have he := zs_end l
    have ha := zs_at l
    obtain ⟨n, hn⟩ : ∃ n, l.length = n := ⟨_, rfl⟩
    obtain ⟨z, hz⟩ : ∃ z, WoolBits.zs l = z := ⟨_, rfl⟩
    have HN := Lib.hid hn
    have HZ := Lib.hid hz
    have hzl' : z ≤ n := by rw [← hz, ← hn]; exact hzl
    have hl' : n ≤ 281474976710656 := by rw [← hn]; exact hl
    have hsz' : (bs l).size = n := by rw [hsz]; exact hn
    have HR : Hid (WoolBits.rg l = if 31 ≤ z then (0, 0, 2) else if n < 2 * z + 1 then (0, 0, 7) else (WoolBits.val 0 ((l.drop z).take (z + 1)), 2 * z + 1, 0)) := by
      show WoolBits.rg l = _
      unfold WoolBits.rg
      rw [if_neg hb, hz, hn]
    have HA : Hid (∀ k, k < z → ∃ h : k < l.length, l[k] = 48) := by rw [← hz]; exact ha
    have HE : Hid (∀ h : z < l.length, l[z].toNat ≠ 48) := by subst hz; exact he
    clear hb hb' hn hz hzl hl hsz ha he
    go_enter Tryz.func44, Tryz.ntmps44
    go_wp2_with fail
    refine (rBits_any l _ (by rw [HN.out]; exact hl')).mono ?_
    rintro e w1 ⟨rfl, rfl⟩
    rw [HB.out]
    go_wp2
    go_loop [5] (ZerosRel l) (fun t5 => n - (RowKit.intOf t5).toNat)
    case atStart => exact ⟨0, by omega, rfl⟩
    case round =>
      obtain ⟨k, hk, rfl⟩ := hrel
      rw [HZ.out] at hk
      by_cases hlt : k < z
      · obtain ⟨hkl, h48⟩ := HA.out k hlt
        have hi := index_of l k hkl
        rw [h48, show (((48 : UInt8).toNat : Nat) : Int) = 48 from rfl] at hi
        have hkn : k < n := by omega
        clear h48 hkl
        go_wp2
        go_round
        case rel => exact ⟨k + 1, by rw [HZ.out]; omega, by go_num⟩
        case measure => simp [intOf]; omega
      · obtain rfl : k = z := by omega
        have hex : k = n ∨ ∃ c : Nat, (∀ W : World, (Instr.index 9 (.string (bs l)) (.int .i64 (k : Int))).run Tryz.prog W = .ok (.int .u8 (c : Int)) W) ∧ ((c : Int) == 48) = false ∧ k < n := by
          by_cases hkn : k < n
          · have hkl : k < l.length := by rw [HN.out]; exact hkn
            exact .inr ⟨_, index_of l k hkl, by have := HE.out hkl; simp; omega, hkn⟩
          · exact .inl (by omega)
        have HR2 := HR
        clear HR
        by_cases h31 : 31 ≤ k
        · have HR3 : Hid (WoolBits.rg l = (0, 0, 2)) := by have := HR2.out; rw [if_pos h31] at this; exact this
          clear HR2
          rcases hex with rfl | ⟨c, hi, hc, hkn⟩
          · go_wp2
            go_ret3
            exact ⟨by rw [HR3.out]; rfl, Up.refl _⟩
          · go_wp2
            go_ret3
            exact ⟨by rw [HR3.out]; rfl, Up.refl _⟩
        · by_cases hs : n < 2 * k + 1
          · have HR3 : Hid (WoolBits.rg l = (0, 0, 7)) := by have := HR2.out; rw [if_neg h31, if_pos hs] at this; exact this
            clear HR2
            rcases hex with rfl | ⟨c, hi, hc, hkn⟩
            · go_wp2
              go_ret3
              exact ⟨by rw [HR3.out]; rfl, Up.refl _⟩
            · go_wp2
              go_ret3
              exact ⟨by rw [HR3.out]; rfl, Up.refl _⟩
          · have hkn : k < n := by omega
            obtain ⟨c, hi, hc, _⟩ := hex.resolve_left (by omega)
            clear hex
            have hsl := slice_bs l (k : Int) (2 * (k : Int) + 1) k (2 * k + 1) rfl (by omega) (by omega) (by rw [HN.out]; omega)
            rw [show 2 * k + 1 - k = k + 1 by omega] at hsl
            obtain ⟨T, hT⟩ : ∃ T, (l.drop k).take (k + 1) = T := ⟨_, rfl⟩
            have hTb : WoolBits.isB T = true := by rw [← hT]; exact WoolBits.isB_take _ _ (WoolBits.isB_drop _ _ HB.out)
            have hTl : T.length = k + 1 := by rw [← hT, List.length_take, List.length_drop, HN.out]; omega
            have HR3 : Hid (WoolBits.rg l = (WoolBits.val 0 T, 2 * k + 1, 0)) := by have := HR2.out; rw [if_neg h31, if_neg hs, hT] at this; exact this
            rw [hT] at hsl
            have hto := to_bytes T
            rw [hTl] at hto
            have HT := Lib.hid hTb
            have HTL := Lib.hid hTl
            clear HR2 hT hTb hTl
            go_wp2
            go_loop [6, 40] (ReadRel 0 T) (fun _ t40 => k + 1 - (RowKit.intOf t40).toNat)
            case atStart => exact ⟨0, by omega, rfl, rfl⟩
            case round =>
              obtain ⟨j, hj, rfl, rfl⟩ := hrel
              rw [HTL.out] at hj
              have hv := val_small 0 T j HT.out (by omega) (by rw [HTL.out]; omega)
              by_cases hlt2 : j < k + 1
              · have hjl : j < T.length := by rw [HTL.out]; exact hlt2
                have hcell := bworld_cell T w j hjl
                have hst := val_take 0 T j hjl
                have hbit := bit_at T j hjl HT.out
                obtain ⟨d, hd⟩ : ∃ d, T[j].toNat = d := ⟨_, rfl⟩
                obtain ⟨V, hV⟩ : ∃ V, WoolBits.val 0 (T.take j) = V := ⟨_, rfl⟩
                rw [hd] at hcell hst hbit
                rw [hV] at hv hst
                rw [hV]
                have HST := Lib.hid hst
                have hand := and_one_u8 d hbit
                have hc2 : d - 48 ≤ 1 := by omega
                obtain ⟨x, hx⟩ : ∃ x, d - 48 = x := ⟨_, rfl⟩
                rw [hx] at hand HST hc2
                clear hst hd hV hbit hx
                go_wp2
                go_round
                case rel => exact ⟨j + 1, by rw [HTL.out]; omega, by go_num, by rw [HST.out]; go_num⟩
                case measure => simp [intOf]; omega
              · have ht : T.take j = T := List.take_of_length_le (by rw [HTL.out]; omega)
                rw [ht] at hv
                rw [ht]
                clear ht
                go_wp2
                go_ret3
                exact ⟨by rw [HR3.out]; unfold three; congr 3, bworld_up _ _⟩

end Go.Proofs.YtloiciinmdmdkaaGreatDoor
