/-
  The law PrintBursts, walked: for every modulus, text, place and pattern the Go text returns true; nothing that was there turns. Conditions: a text that came in has at most 2^47 - 4096 bytes.
-/
import Derived.Test.YtkkecgamaahniaaGreatJLogBursts03
namespace Go.Proofs.YtkkecgamaahniaaGreat
open Go.RowKit
open Go.Proofs

theorem pw_256 (n : Nat) : WoolMath.pw 256 n = 2 ^ (8 * n) := by
  induction n with
  | zero => rfl
  | succ n ih => rw [WoolMath.pw_succ, ih, show (256 : Nat) = 2 ^ 8 from rfl, WoolMath.mul_pow, ← Nat.pow_add]; congr 1

theorem sp_set (x : UInt8) : ∀ (l : List UInt8) (i : Nat) (h : i < l.length), sp (l.set i (l[i] ^^^ x)) = sp l ^^^ x.toNat * 2 ^ (8 * (l.length - 1 - i))
  | [], i, h => by simp at h
  | a :: l, 0, _ => by
    rw [List.set_cons_zero, List.getElem_cons_zero, sp_cons, sp_cons, UInt8.toNat_xor, WoolMath.xor_mul, WoolMath.xor_mul, WoolMath.xor_mul, pw_256, List.length_cons, Nat.add_sub_cancel, Nat.sub_zero, ← WoolMath.mul_pow]
    generalize WoolMath.mul 256 (2 ^ (8 * l.length)) = A
    generalize WoolMath.mul a.toNat (2 ^ (8 * l.length)) = B
    generalize WoolMath.mul x.toNat (2 ^ (8 * l.length)) = C
    generalize sp l ^^^ 2 ^ (8 * l.length) = D
    apply Nat.eq_of_testBit_eq
    intro i
    simp only [Nat.testBit_xor]
    cases A.testBit i <;> cases B.testBit i <;> cases C.testBit i <;> cases D.testBit i <;> rfl
  | a :: l, i + 1, h => by
    have h' : i < l.length := by simpa using h
    rw [List.set_cons_succ, List.getElem_cons_succ, sp_cons, sp_cons, List.length_set, sp_set x l i h', List.length_cons]
    rw [show l.length + 1 - 1 - (i + 1) = l.length - 1 - i by omega]
    generalize WoolMath.mul (256 ^^^ a.toNat) (WoolMath.pw 256 l.length) = A
    generalize WoolMath.pw 256 l.length = B
    generalize x.toNat * 2 ^ (8 * (l.length - 1 - i)) = C
    generalize sp l = D
    apply Nat.eq_of_testBit_eq
    intro i
    simp only [Nat.testBit_xor]
    cases A.testBit i <;> cases B.testBit i <;> cases C.testBit i <;> cases D.testBit i <;> rfl

/-- the bits of a pattern, the highest first, so many -/
def acc (T E : Nat) : Nat → Nat
  | 0 => 0
  | k + 1 => acc T E k ^^^ (if T.testBit (15 - k) then 2 ^ (E + 15 - k) else 0)

theorem acc_bit (T E : Nat) (k : Nat) (hk : k ≤ 16) (p : Nat) : (acc T E k).testBit p = (decide (E + 16 - k ≤ p) && decide (p < E + 16) && T.testBit (p - E)) := by
  induction k with
  | zero =>
    rw [acc, Nat.zero_testBit]
    by_cases h1 : E + 16 - 0 ≤ p
    · have h2 : ¬ p < E + 16 := by omega
      simp [h2]
    · have h1' : ¬ E + 16 ≤ p := by omega
      simp [h1']
  | succ k ih =>
    rw [acc, Nat.testBit_xor, ih (by omega)]
    by_cases hp : p = E + 15 - k
    · have h1 : ¬ E + 16 - k ≤ p := by omega
      have h2 : E + 15 ≤ p + k := by omega
      have h3 : p < E + 16 := by omega
      have h4 : p - E = 15 - k := by omega
      rw [h4]
      by_cases hb : T.testBit (15 - k) = true
      · rw [if_pos hb, ← hp, Nat.testBit_two_pow_self]; simp [h1, h2, h3, hb]
      · rw [if_neg hb]; simp [h1, hb]
    · have e : (E + 16 - k ≤ p) = (E + 16 - (k + 1) ≤ p) := by
        apply propext; omega
      have h5 : (if T.testBit (15 - k) = true then 2 ^ (E + 15 - k) else 0).testBit p = false := by
        by_cases hb : T.testBit (15 - k) = true
        · rw [if_pos hb, Nat.testBit_two_pow]; simp; omega
        · rw [if_neg hb, Nat.zero_testBit]
      rw [h5]
      simp only [e, Bool.xor_false]

theorem acc_all (T E : Nat) (hT : T < 65536) : acc T E 16 = T * 2 ^ E := by
  apply Nat.eq_of_testBit_eq
  intro p
  rw [acc_bit T E 16 (by omega), ← Nat.shiftLeft_eq, Nat.testBit_shiftLeft]
  by_cases h : E ≤ p
  · by_cases h2 : p < E + 16
    · simp [h, h2]
    · have : T.testBit (p - E) = false := Nat.testBit_lt_two_pow (Nat.lt_of_lt_of_le (show T < 2 ^ 16 by omega) (Nat.pow_le_pow_right (by omega) (by omega)))
      simp [this]
  · simp [h]

theorem u16_bit (T n : Nat) (hT : T < 65536) : (bits .and .u16 ((T : Int) / 2 ^ n) 1 == 1) = T.testBit n := by
  have e1 : ((T : Int) / 2 ^ n) = ((T / 2 ^ n : Nat) : Int) := by simp
  have hd : T / 2 ^ n < 65536 := Nat.lt_of_le_of_lt (Nat.div_le_self _ _) hT
  rw [Nat.testBit_eq_decide_div_mod_eq, e1]
  generalize T / 2 ^ n = q at *
  have e2 : bits .and .u16 (q : Int) 1 = ((q % 2 : Nat) : Int) := by
    show IntKind.u16.wrap ((BitVec.ofInt 16 (q : Int) &&& BitVec.ofInt 16 1).toNat : Int) = _
    rw [BitVec.toNat_and, BitVec.ofInt_natCast, BitVec.toNat_ofNat, Nat.mod_eq_of_lt (show q < 2 ^ 16 by omega), show (BitVec.ofInt 16 1).toNat = 1 from by decide, Nat.and_one_is_mod]
    generalize hr : q % 2 = r
    have : r < 2 := by omega
    simp only [IntKind.wrap, IntKind.bits, IntKind.signed]
    simp
    omega
  rw [e2, Bool.eq_iff_iff, beq_iff_eq, decide_eq_true_iff]
  omega

/-- a text in memory, in the block b -/
def Text (w : World) (b : Nat) (l : List UInt8) : Prop := ∀ j, (h : j < l.length) → w.cell? ⟨b, j, none⟩ = some (.int .u8 (l[j].toNat : Int)) ∧ w.frozen? ⟨b, j, none⟩ = false

theorem Text.set {w : World} {b : Nat} {l : List UInt8} (h : Text w b l) (q : Nat) (c : UInt8) : Text (w.setCell ⟨b, q, none⟩ (.int .u8 (c.toNat : Int))).drew b (l.set q c) := by
  intro j hj
  rw [List.length_set] at hj
  obtain ⟨h1, h2⟩ := h j hj
  constructor
  · show (w.setCell ⟨b, q, none⟩ (.int .u8 (c.toNat : Int))).cell? ⟨b, j, none⟩ = _
    by_cases e : q = j
    · subst e
      rw [World.cell?_setCell_same _ _ _ h1, List.getElem_set_self]
    · rw [World.cell?_setCell_other _ _ _ _ (by intro h; exact e (congrArg Addr.off h)), h1, List.getElem_set_ne e]
  · show (w.setCell ⟨b, q, none⟩ (.int .u8 (c.toNat : Int))).frozen? ⟨b, j, none⟩ = _
    rw [World.frozen?_setCell]; exact h2

/-- one bit of a byte, the r-th from the left -/
def bitOf (r : Nat) : UInt8 := UInt8.ofNat (2 ^ (7 - r))

theorem bitOf_val : ∀ r, r < 8 → (bitOf r).toNat = 2 ^ (7 - r) := by decide

theorem bitOf_div : ∀ r, r < 8 → (128 : Int) / 2 ^ r = ((bitOf r).toNat : Int) := by decide

def BurstRel (s : ByteArray) (T E B : Nat) (w : World) (i : Value) (wr : World) : Prop :=
  ∃ (k : Nat) (l : List UInt8), k ≤ 16 ∧ i = .int .i64 k ∧ l.length = s.size ∧ Text wr B l ∧ sp l = sp s.data.toList ^^^ acc T E k ∧ Up w wr

/-- what burst hands back -/
def BurstPost (s : ByteArray) (T E : Nat) (w : World) (e : Ending) (w' : World) : Prop :=
  ∃ l : List UInt8, l.length = s.size ∧ sp l = sp s.data.toList ^^^ T * 2 ^ E ∧ e = .returned (.string ⟨l.toArray⟩) ∧ Up w w'

set_option maxRecDepth 100000 in
set_option maxHeartbeats 400000 in
theorem burst_any (s : ByteArray) (A T : Nat) (w : World) (hs : s.size ≤ 1000) (hA : A + 16 ≤ 8 * s.size) (hT : T < 65536) :
    Calls Tryz.prog 14 #[.string s, .int .i64 (A : Int), .int .u16 (T : Int)] w (BurstPost s T (8 * s.size - 16 - A) w) := by
  have hconv := run_bytes_of_string (P := Tryz.prog) w 9 50 5 s Tryz.underlying9 Tryz.underlying50 Tryz.underlying5
  generalize grownCap w s.size 0 5 = cap at *
  go_enter Tryz.func14, Tryz.ntmps14
  go_wp2_with fail
  clear hconv
  go_loopw [11] (fun i wr => BurstRel s T (8 * s.size - 16 - A) w.heap.size w i wr) (fun i _ => 16 - (intOf i).toNat)
  case atStart =>
    refine ⟨0, s.data.toList, by omega, rfl, ba_length s, ?_, by rw [acc, Nat.xor_zero], (Up.drew w).trans (Up.alloc _ _)⟩
    intro j hj
    have hj' : j < s.data.size := by simpa using hj
    constructor
    · exact (World.cell?_alloc_mark w.drew _ _ _ j).trans (bytesRow_at s cap j hj')
    · refine (World.frozen?_alloc_mark w.drew _ _ _ _ j).trans ?_
      have hj2 : j < s.size := hj'
      have : j < (bytesRow s cap).size := by unfold bytesRow; simp; omega
      have h2 : ¬ (bytesRow s cap).size ≤ j := by omega
      simp [h2]
  case round =>
    obtain ⟨k, l, hk, rfl, hl, ht, hsp, hu⟩ := hrel
    have HL := Lib.hid hl
    have HT := Lib.hid ht
    have HSP := Lib.hid hsp
    have HU := Lib.hid hu
    clear hl ht hsp hu
    by_cases hlt : k < 16
    · have hbit := u16_bit T (15 - k) hT
      by_cases hb : T.testBit (15 - k) = true
      · rw [hb] at hbit
        have hq : (A + k) / 8 < l.length := by have := HL.out; omega
        obtain ⟨hc, hf⟩ := HT.out _ hq
        have hw1 : IntKind.i64.wrap ((A : Int) + (k : Int)) = ((A + k : Nat) : Int) := wrap_i64_nat (A + k) (by omega)
        have hw2 : IntKind.i64.wrap (((A + k : Nat) : Int).tdiv 8) = (((A + k) / 8 : Nat) : Int) := by
          rw [show ((A + k : Nat) : Int).tdiv 8 = (((A + k) / 8 : Nat) : Int) from by rw [Int.tdiv_eq_ediv_of_nonneg (by omega)]; omega]
          exact wrap_i64_nat _ (by omega)
        have hw3 : ((A + k : Nat) : Int).tmod 8 = (((A + k) % 8 : Nat) : Int) := by
          rw [Int.tmod_eq_emod_of_nonneg (by omega)]; omega
        have hqs : (A + k) / 8 < s.size := by omega
        have hsp := sp_set (bitOf ((A + k) % 8)) l ((A + k) / 8) hq
        rw [bitOf_val _ (Nat.mod_lt _ (by omega)), ← Nat.pow_add] at hsp
        have hexp : 7 - (A + k) % 8 + 8 * (l.length - 1 - (A + k) / 8) = 8 * s.size - 16 - A + 15 - k := by rw [HL.out]; omega
        rw [hexp, HSP.out, Nat.xor_assoc] at hsp
        have hac : acc T (8 * s.size - 16 - A) (k + 1) = acc T (8 * s.size - 16 - A) k ^^^ 2 ^ (8 * s.size - 16 - A + 15 - k) := by
          rw [acc, if_pos hb]
        rw [← hac] at hsp
        have hxor := u8_xor l[(A + k) / 8] (bitOf ((A + k) % 8))
        rw [← bitOf_div _ (Nat.mod_lt _ (by omega))] at hxor
        have htext := HT.out.set ((A + k) / 8) (l[(A + k) / 8] ^^^ bitOf ((A + k) % 8))
        rw [← hxor] at htext
        have hup : Up w (wr.setCell ⟨w.heap.size, (A + k) / 8, none⟩ (.int .u8 (bits .xor .u8 (l[(A + k) / 8].toNat : Int) (128 / 2 ^ ((A + k) % 8))))).drew := Below.drew (Below.setCell HU.out (Nat.le_refl _) _)
        have hlen : (l.set ((A + k) / 8) (l[(A + k) / 8] ^^^ bitOf ((A + k) % 8))).length = s.size := by rw [List.length_set, HL.out]
        have HNEXT := Lib.hid (show BurstRel s T (8 * s.size - 16 - A) w.heap.size w (.int .i64 ((k + 1 : Nat) : Int)) _ from ⟨k + 1, _, by omega, rfl, hlen, htext, hsp, hup⟩)
        clear hsp hexp hac hxor htext hup hlen hb
        go_wp2_with fail
        go_region
        all_goals
          go_wp2_with fail
          go_roundw
          case rel => exact HNEXT.out
          case measure => simp only [intOf]; omega
      · have hb' : T.testBit (15 - k) = false := by simpa using hb
        rw [hb'] at hbit
        have hac : acc T (8 * s.size - 16 - A) (k + 1) = acc T (8 * s.size - 16 - A) k := by
          rw [acc, if_neg hb, Nat.xor_zero]
        have hsp := HSP.out
        rw [← hac] at hsp
        have HNEXT := Lib.hid (show BurstRel s T (8 * s.size - 16 - A) w.heap.size w (.int .i64 ((k + 1 : Nat) : Int)) wr from ⟨k + 1, l, by omega, rfl, HL.out, HT.out, hsp, HU.out⟩)
        clear hac hsp hb hb'
        go_wp2_with fail
        go_roundw
        case rel => exact HNEXT.out
        case measure => simp only [intOf]; omega
    · obtain rfl : k = 16 := by omega
      have hsp := HSP.out
      rw [acc_all T _ hT] at hsp
      have hconv : (convert 50 9 (.slice (some ⟨w.heap.size, 0, none⟩) s.size cap)).run Tryz.prog wr = .ok (.string ⟨l.toArray⟩) wr := by
        rw [← HL.out]
        refine run_convert_bytes_back (P := Tryz.prog) _ 50 9 5 _ cap l Tryz.underlying50 Tryz.underlying5 Tryz.underlying9 ?_
        intro j hj
        rw [← (HT.out j hj).1]
        congr 1
        unfold Addr.add
        split
        · rename_i e; subst e; rfl
        · simp
      have HEND := Lib.hid (show BurstPost s T (8 * s.size - 16 - A) w (.returned (.string ⟨l.toArray⟩)) wr from ⟨l, HL.out, hsp, rfl, HU.out⟩)
      clear hsp
      go_wp2_with fail
      go_ret
      exact HEND.out

end Go.Proofs.YtkkecgamaahniaaGreat
