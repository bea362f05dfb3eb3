/-
  What strconv.FormatInt answers at base 2: the binary digits of n, for 1 ≤ n < 2^32. Condition: one cell of the table deBruijn64tab (Tab).
-/
import Derived.Test.YtloiciinmdmdkaaGreatDoorFmt0
import Derived.Test.YtloiciinmdmdkaaGreatDoorBinM
import Derived.Lib.ItoaMem
import Derived.Laws.Bits64b
namespace Go.Proofs.YtloiciinmdmdkaaGreatDoor
open Go.RowKit
open Go.Proofs

/-- an array of 65 bytes of the call's own, whose last bytes are l -/
def FB (w : World) (l : List UInt8) (wr : World) : Prop :=
  Up w wr ∧ (∀ j, j < 65 → ∃ v, wr.cell? ⟨w.heap.size, j, none⟩ = some v) ∧ (∀ j, wr.frozen? ⟨w.heap.size, j, none⟩ = false) ∧ l.length ≤ 65 ∧
    ∀ j (h : j < l.length), wr.cell? ⟨w.heap.size, 65 - l.length + j, none⟩ = some (.int .u8 ((l[j].toNat : Nat) : Int))

theorem FB.start (w : World) (cs : Array Value) (t : TypeId) (h : cs.size = 65) : FB w [] (w.alloc (.cells cs t)) :=
  ⟨Up.alloc w _, fun j hj => ⟨cs[j]'(by omega), by rw [World.cell?_alloc_new]; exact Array.getElem?_eq_getElem _⟩, fun j => World.frozen?_alloc_new _ _ _ _, by simp, fun j h => by simp at h⟩

theorem FB.set {w wr : World} {l : List UInt8} (h : FB w l wr) (k : Nat) (hk : k + l.length + 1 = 65) (c : UInt8) : FB w (c :: l) (wr.setCell ⟨w.heap.size, k, none⟩ (.int .u8 (c.toNat : Int))) := by
  obtain ⟨h1, h2, h3, h4, h5⟩ := h
  obtain ⟨v, hv⟩ := h2 k (by omega)
  refine ⟨Below.setCell h1 (Nat.le_refl _) _, ?_, ?_, by simp; omega, ?_⟩
  · intro j hj
    by_cases e : j = k
    · subst e; exact ⟨_, World.cell?_setCell_same _ _ _ hv⟩
    · obtain ⟨u, hu⟩ := h2 j hj
      exact ⟨u, by rw [World.cell?_setCell_other _ _ _ _ (by intro h; cases h; exact e rfl)]; exact hu⟩
  · intro j; rw [World.frozen?_setCell]; exact h3 j
  · intro j hj
    cases j with
    | zero =>
      rw [show 65 - (c :: l).length + 0 = k by rw [List.length_cons]; omega]
      exact World.cell?_setCell_same _ _ _ hv
    | succ j =>
      have hj' : j < l.length := by simpa using hj
      rw [World.cell?_setCell_other _ _ _ _ (by rw [List.length_cons]; intro h; have := congrArg Addr.off h; simp at this; omega), show 65 - (c :: l).length + (j + 1) = 65 - l.length + j by rw [List.length_cons]; omega]
      exact h5 j hj'

theorem FB.conv {w wr : World} {l : List UInt8} (h : FB w l wr) (k : Nat) (hk : k + l.length = 65) (c : Nat) : (convert 34 9 (.slice (some ⟨w.heap.size, k, none⟩) l.length c)).run Tryz.prog wr = .ok (.string ⟨l.toArray⟩) wr := by
  refine run_convert_bytes_back (P := Tryz.prog) _ 34 9 5 _ c l Tryz.underlying34 Tryz.underlying5 Tryz.underlying9 ?_
  intro j hj
  rw [Lib.add_plain, show k + j = 65 - l.length + j by omega]
  exact h.2.2.2.2 j hj

theorem sl65 (b : Nat) (k n : Nat) (hk : k + n = 65) (hn : 0 < n) : ∀ W : World, (Instr.sliceAt 121 (.pointer (some ⟨b, 0, none⟩)) (some (.int .i64 (k : Int))) none none).run Tryz.prog W = .ok (.slice (some ⟨b, k, none⟩) n n) W := by
  intro W
  have hal : Tryz.prog.arrayLen 121 = 65 := by kernel_rfl
  rw [run_sliceAt_array_l W 121 ⟨b, 0, none⟩ (by kernel_rfl) .i64 (k : Int) (by omega) (by rw [hal]; omega)]
  rw [hal]
  go_simp
  omega

theorem and_bit (u : Nat) (h : u < 4294967296) : bits BinOp.and IntKind.u64 (u : Int) 1 = ((u % 2 : Nat) : Int) := by
  have := bits_and_u64_nat u 1 (by omega) (by omega)
  rw [Nat.and_one_is_mod] at this
  exact this

theorem dig_at (i : Int) (c : Int) (h : (i = 0 ∧ c = 48) ∨ (i = 1 ∧ c = 49)) : ∀ W : World, (Instr.index 9 (.string ⟨#[48, 49, 50, 51, 52, 53, 54, 55, 56, 57, 97, 98, 99, 100, 101, 102, 103, 104, 105, 106, 107, 108, 109, 110, 111, 112, 113, 114, 115, 116, 117, 118, 119, 120, 121, 122]⟩) (.int .u64 i)).run Tryz.prog W = .ok (.int .u8 c) W := by
  intro W
  rcases h with ⟨rfl, rfl⟩ | ⟨rfl, rfl⟩
  · kernel_rfl
  · kernel_rfl

def FBRel (w : World) (n : Nat) (t1 t13 : Value) (wr : World) : Prop :=
  ∃ (u k : Nat) (l : List UInt8), t1 = .int .u64 (u : Int) ∧ t13 = .int .i64 (k : Int) ∧ FB w l wr ∧ k + l.length = 65 ∧ 1 ≤ u ∧ u < 4294967296 ∧ WoolBits.dg u ++ l = WoolBits.dg n

set_option maxHeartbeats 2000000 in
set_option maxRecDepth 100000 in
theorem formatBits_any (n : Nat) (w : World) (h1 : 1 ≤ n) (h2 : n < 4294967296) (hT : Tab w) :
    Calls Tryz.prog 110 #[.slice none 0 0, .int .u64 (n : Int), .int .i64 2, .bool false, .bool false] w fun e w' => e = .returned (.tuple #[.slice none 0 0, .string ⟨(WoolBits.dg n).toArray⟩]) ∧ Up w w' := by
  go_enter Tryz.func110, Tryz.ntmps110
  go_wp2_with (first | (go_at_call 118; refine (pow2_two _).mono ?_; rintro e w' ⟨rfl, rfl⟩) | (go_at_call 119; refine (tz_two _ (hT.up (Up.alloc _ _))).mono ?_; rintro e w' ⟨rfl, rfl⟩))
  go_loopw [1, 13] (FBRel w n) (fun t1 _ _ => (RowKit.intOf t1).toNat)
  case atStart => exact ⟨n, 65, [], rfl, rfl, FB.start w _ _ rfl, rfl, h1, h2, by simp⟩
  case round =>
    obtain ⟨u, k, l, rfl, rfl, hF, hk, hu1, hu2, hd⟩ := hrel
    rename World => W0
    have hlen : WoolBits.len u + l.length = WoolBits.len n := by
      have := congrArg List.length hd
      rw [List.length_append] at this
      exact this
    have hn32 : WoolBits.len n ≤ 32 := WoolBits.len_lt 32 n (by simpa using h2) (by omega)
    have hup := WoolBits.len_pos u
    obtain ⟨m, rfl⟩ : ∃ m, k = m + 1 := ⟨k - 1, by omega⟩
    obtain ⟨v, hc⟩ := hF.2.1 m (by omega)
    have hf := hF.2.2.1 m
    have hand := and_bit u hu2
    have HF := Lib.hid hF
    have HD := Lib.hid hd
    clear hF hd
    by_cases hlt : u < 2
    · obtain rfl : u = 1 := by omega
      have HS := HF.out.set m (by omega) 49
      have hs := sl65 w.heap.size m (l.length + 1) (by omega) (by omega)
      have hcv := HS.conv m (by simp; omega) (l.length + 1)
      rw [List.length_cons, show (((49 : UInt8).toNat : Nat) : Int) = 49 from rfl] at hcv
      rw [show (((49 : UInt8).toNat : Nat) : Int) = 49 from rfl] at HS
      clear HF hand
      have hidx := dig_at 1 49 (.inr ⟨rfl, rfl⟩)
      have HS' := Lib.hid HS
      clear HS
      go_wp2
      go_ret2
      exact ⟨by rw [← HD.out, WoolBits.dg_small 1 (by omega)]; rfl, HS'.out.1⟩
    · have hge : 2 ≤ u := by omega
      have hlen2 := WoolBits.len_step u hge
      have hup2 := WoolBits.len_pos (u / 2)
      have HB : Hid (WoolBits.dg (u / 2) ++ (WoolBits.bit u :: l) = WoolBits.dg n) := by
        have := HD.out
        rw [WoolBits.dg_step u hge, List.append_assoc] at this
        exact this
      clear HD
      rcases Nat.mod_two_eq_zero_or_one u with e | e
      · have eb : WoolBits.bit u = 48 := by unfold WoolBits.bit; rw [if_pos e]
        have HS := Lib.hid (HF.out.set m (by omega) 48)
        rw [show (((48 : UInt8).toNat : Nat) : Int) = 48 from rfl] at HS
        rw [e] at hand
        rw [eb] at HB
        have hidx := dig_at 0 48 (.inl ⟨rfl, rfl⟩)
        clear HF eb e hlen hlen2
        go_wp2
        go_roundw
        case rel => exact ⟨u / 2, m, 48 :: l, by go_num, by go_num, HS.out, by simp; omega, by omega, by omega, HB.out⟩
        case measure => simp [intOf]; omega
      · have eb : WoolBits.bit u = 49 := by unfold WoolBits.bit; rw [if_neg (by omega)]
        have HS := Lib.hid (HF.out.set m (by omega) 49)
        rw [show (((49 : UInt8).toNat : Nat) : Int) = 49 from rfl] at HS
        rw [e] at hand
        rw [eb] at HB
        have hidx := dig_at 1 49 (.inr ⟨rfl, rfl⟩)
        clear HF eb e hlen hlen2
        go_wp2
        go_roundw
        case rel => exact ⟨u / 2, m, 49 :: l, by go_num, by go_num, HS.out, by simp; omega, by omega, by omega, HB.out⟩
        case measure => simp [intOf]; omega

theorem formatInt2 (n : Nat) (w : World) (h1 : 1 ≤ n) (h2 : n < 4294967296) (hT : Tab w) :
    Calls Tryz.prog 98 #[.int .i64 (n : Int), .int .i64 2] w fun e w' => e = .returned (.string ⟨(WoolBits.dg n).toArray⟩) ∧ Up w w' := by
  have hw : IntKind.u64.wrap (n : Int) = (n : Int) := by rw [IntKind.wrap_u64]; omega
  have hneg : decide ((n : Int) < 0) = false := by simp
  go_enter Tryz.func98, Tryz.ntmps98
  go_wp2_with (go_at_call 110; refine (formatBits_any n _ h1 h2 hT).mono ?_; rintro e w' ⟨rfl, u⟩)
  go_ret
  exact ⟨rfl, u⟩

theorem format2 (n : Nat) (w : World) (h1 : 1 ≤ n) (h2 : n < 4294967296) (hT : Tab w) :
    Calls Tryz.prog 83 #[.int .i64 (n : Int), .int .i64 2] w fun e w' => e = .returned (.string ⟨(WoolBits.dg n).toArray⟩) ∧ Up w w' := by
  go_enter Tryz.func83, Tryz.ntmps83
  go_wp2_with (go_at_call 98; refine (formatInt2 n _ h1 h2 hT).mono ?_; rintro e w' ⟨rfl, u⟩)
  go_ret
  exact ⟨rfl, u⟩

end Go.Proofs.YtloiciinmdmdkaaGreatDoor
