/-
  The texts Frame2, LawFrame1, RefPrint, RefFrm, LawFrame2, one behind the other; each says below what it holds and on what conditions.
-/
import Derived.Test.YtbeigaanlhaolaaGreatDoorJB24
import Derived.Deep.RegionHeld3
import Derived.BigRegion
import Derived.Test.YtbeigaanlhaolaaGreatDoorJB23
import Derived.Test.YtbeigaanlhaolaaGreatDoorJB26
import Derived.Deep.RegionWith

/-
  What frame's Put returns, at every frame. No condition (the body: at most 2^47 - 4096 bytes).
-/
namespace Go.Proofs.YtbeigaanlhaolaaGreatDoor
open Go.RowKit
open Go.Proofs

/-- what Put answers, as the two results -/
def putR (k : Int) (b : List UInt8) : Value := .tuple #[.string (bs (putV k b).1), .int .i64 (((putV k b).2 : Nat) : Int)]

set_option maxRecDepth 100000 in
set_option maxHeartbeats 1000000 in
theorem frmPut_any (k : Int) (b : List UInt8) (w : World) (hk : (Lit.int .i64 k).wf = true) (hbl : b.length ≤ 140737488351232) :
    Calls Tryz.prog 12 #[.agg #[.int .i64 k, .string (bs b)]] w fun e w' => e = .returned (putR k b) ∧ Up w w' := by
  have hsz := bs_size b
  by_cases h1 : k < 1
  · have HV : Hid (putR k b = .tuple #[.string ⟨#[]⟩, .int .i64 1]) := by
      show _ = _
      unfold putR putV
      rw [if_pos (Or.inl h1)]
      rfl
    clear hk hbl hsz
    go_enter Tryz.func12, Tryz.ntmps12
    go_wp2_with fail
    go_ret2
    exact ⟨by rw [HV.out]; rfl, Up.alloc _ _⟩
  by_cases h2 : 255 < k
  · have HV : Hid (putR k b = .tuple #[.string ⟨#[]⟩, .int .i64 1]) := by
      show _ = _
      unfold putR putV
      rw [if_pos (Or.inr h2)]
      rfl
    clear hk hbl hsz
    go_enter Tryz.func12, Tryz.ntmps12
    go_wp2_with fail
    go_ret2
    exact ⟨by rw [HV.out]; rfl, Up.alloc _ _⟩
  obtain ⟨K, rfl⟩ : ∃ K : Nat, k = (K : Int) := ⟨k.toNat, by omega⟩
  by_cases h3 : 700 < b.length
  · have HV : Hid (putR (K : Int) b = .tuple #[.string ⟨#[]⟩, .int .i64 2]) := by
      show _ = _
      unfold putR putV
      rw [if_neg (by omega), if_pos h3]
      rfl
    obtain ⟨n, hn⟩ : ∃ n, b.length = n := ⟨_, rfl⟩
    rw [hn] at hsz h3 hbl
    clear hk hn
    go_enter Tryz.func12, Tryz.ntmps12
    go_wp2_with fail
    go_ret2
    exact ⟨by rw [HV.out]; rfl, Up.alloc _ _⟩
  have HV : Hid (putR (K : Int) b = .tuple #[.string (bs (frm K b)), .int .i64 0]) := by
    show _ = _
    unfold putR putV
    rw [if_neg (by omega), if_neg h3]
    rfl
  have hadd1 := add_bs (nb K 1) (nb b.length 2) (by rw [nb_length, nb_length]; omega)
  have hadd2 := add_bs (nb K 1 ++ nb b.length 2) b (by rw [List.length_append, nb_length, nb_length]; omega)
  rw [show nb K 1 ++ nb b.length 2 ++ b = hb K b by unfold hb; rw [List.append_assoc]] at hadd2
  have hhl := hb_length K b
  have hf := fp30 (hb K b)
  have hadd3 := add_bs (hb K b) (nb (fp 1073741907 (hb K b)) 4) (by rw [hhl, nb_length]; omega)
  rw [show hb K b ++ nb (fp 1073741907 (hb K b)) 4 = frm K b from rfl] at hadd3
  have HHL : Hid ((hb K b).length ≤ 1000) := by show (hb K b).length ≤ 1000; omega
  obtain ⟨A1, hA1⟩ : ∃ A, nb K 1 = A := ⟨_, rfl⟩
  obtain ⟨n, hn⟩ : ∃ n, b.length = n := ⟨_, rfl⟩
  rw [hn] at hsz hbl h3 hadd1 hadd2
  obtain ⟨A2, hA2⟩ : ∃ A, nb n 2 = A := ⟨_, rfl⟩
  obtain ⟨H, hH⟩ : ∃ H, hb K b = H := ⟨_, rfl⟩
  rw [hH] at hadd2 hadd3 HHL hf
  obtain ⟨F, hF⟩ : ∃ F, fp 1073741907 H = F := ⟨_, rfl⟩
  rw [hF] at hadd3 hf
  obtain ⟨A4, hA4⟩ : ∃ A, nb F 4 = A := ⟨_, rfl⟩
  rw [hA4] at hadd3
  rw [hA1, hA2] at hadd1 hadd2
  obtain ⟨A3, hA3⟩ : ∃ A, A1 ++ A2 = A := ⟨_, rfl⟩
  rw [hA3] at hadd1 hadd2
  have HA1 := Lib.hid hA1
  have HA2 := Lib.hid hA2
  have HA4 := Lib.hid hA4
  have HF := Lib.hid hF
  clear hA1 hA2 hA3 hA4 hF hhl hk hn hH
  go_enter Tryz.func12, Tryz.ntmps12
  go_wp2_with fail
  have q0 := World.cell?_alloc_new w #[.int .i64 (K : Int), .string (bs b)] 32 0
  have q1 := World.cell?_alloc_new w #[.int .i64 (K : Int), .string (bs b)] 32 1
  have q2 : w.heap.size < (w.alloc (.cells #[.int .i64 (K : Int), .string (bs b)] 32)).heap.size := by simp
  go_region_held3 (fun W => W.cell? ⟨w.heap.size, 0, none⟩ = some (.int .i64 (K : Int)) ∧ W.cell? ⟨w.heap.size, 1, none⟩ = some (.string (bs b))) (go_keep) (first
    | (go_at_call 27; ((with_reducible refine (number1 K _ (by omega)).mono ?_); rintro e w4 ⟨rfl, u4⟩; rw [HA1.out]; have f0 := (Below.cell u4 (p := ⟨w.heap.size, 0, none⟩) (by first | exact g2 | exact q2)).trans (by first | exact g0 | exact q0); have f1 := (Below.cell u4 (p := ⟨w.heap.size, 1, none⟩) (by first | exact g2 | exact q2)).trans (by first | exact g1 | exact q1); have f2 := Nat.lt_of_lt_of_le (by first | exact g2 | exact q2) u4.size))
    | (go_at_call 27; ((with_reducible refine (number2 n _ (by omega)).mono ?_); rintro e w5 ⟨rfl, u5⟩; rw [HA2.out]; have g0 := (Below.cell u5 (p := ⟨w.heap.size, 0, none⟩) (by first | exact f2 | exact q2)).trans (by first | exact f0 | exact q0); have g1 := (Below.cell u5 (p := ⟨w.heap.size, 1, none⟩) (by first | exact f2 | exact q2)).trans (by first | exact f1 | exact q1); have g2 := Nat.lt_of_lt_of_le (by first | exact f2 | exact q2) u5.size)))
  all_goals
    go_wp2_with fail
    refine (frmPrint_any H _ HHL.out).mono ?_
    rintro e w6 ⟨rfl, u6⟩
    rw [HF.out]
    go_wp2_with fail
    refine (number4 F _ (by omega)).mono ?_
    rintro e w7 ⟨rfl, u7⟩
    rw [HA4.out]
    go_wp2_with fail
    go_ret2
    exact ⟨by rw [HV.out]; rfl, by first | exact (Up.alloc _ _).trans (((((Up.drew _).trans u4).trans u5).trans u6).trans u7) | exact (Up.alloc _ _).trans (((((Up.drew _).trans u5).trans u4).trans u6).trans u7)⟩

end Go.Proofs.YtbeigaanlhaolaaGreatDoor

/-
  The law FrameOne, walked: for every text the Go text returns true; nothing that was there turns. Condition: a text that came in has at most 2^47 - 4096 bytes.
-/
namespace Go.Proofs.YtbeigaanlhaolaaGreatDoor
open Go.RowKit
open Go.Proofs

theorem putR_ok {K : Nat} {b : List UInt8} (h0 : 1 ≤ K) (h1 : K ≤ 255) (h2 : b.length ≤ 700) : putR (K : Int) b = .tuple #[.string (bs (frm K b)), .int .i64 0] := by
  unfold putR putV
  rw [if_neg (by omega), if_neg (by omega)]
  rfl

end Go.Proofs.YtbeigaanlhaolaaGreatDoor

/-
  What the reference's Modulus, Rest and Print return: Print, bit by bit, is the remainder of the text's polynomial. Conditions: a modulus from 2 to 2147483647, a text of at most 1000 bytes.
-/
namespace Go.Proofs.YtbeigaanlhaolaaGreatDoor
open Go.RowKit
open Go.Proofs

/-- a cell of the call's own -/
def Holds (w : World) (b : Nat) (n : Nat) : Prop := w.cell? ⟨b, 0, none⟩ = some (.int .i64 (n : Int)) ∧ w.frozen? ⟨b, 0, none⟩ = false

/-- the block b alone has turned -/
def Only (b : Nat) (w w' : World) : Prop := Below b w w' ∧ w'.heap.size = w.heap.size ∧ ∀ k, k ≠ b → w'.heap[k]? = w.heap[k]?

theorem Only.refl (b : Nat) (w : World) : Only b w w := ⟨Below.refl _ _, rfl, fun _ _ => rfl⟩

theorem Only.set {b : Nat} {w w' : World} (h : Only b w w') (v : Value) : Only b w (w'.setCell ⟨b, 0, none⟩ v) :=
  ⟨Below.setCell h.1 (Nat.le_refl _) v, by rw [← h.2.1]; simp [World.setCell], fun k hk => (Below.heap_setCell _ _ _ _ hk).trans (h.2.2 k hk)⟩

theorem Only.holds {b c n : Nat} {w w' : World} (h : Only b w w') (hc : Holds w c n) (hne : c ≠ b) : Holds w' c n :=
  ⟨(World.cell?_of_block (h.2.2 c hne)).trans hc.1, (World.frozen?_of_block (h.2.2 c hne)).trans hc.2⟩

theorem Holds.set {b n : Nat} {w : World} (h : Holds w b n) (k : Nat) : Holds (w.setCell ⟨b, 0, none⟩ (.int .i64 (k : Int))) b k :=
  ⟨World.cell?_setCell_same _ _ _ h.1, by rw [World.frozen?_setCell]; exact h.2⟩

theorem top_and (D X : Nat) (h : X < 2 ^ (D + 1)) : (0 < X &&& 2 ^ D) ↔ 2 ^ D ≤ X := by
  constructor
  · intro h1
    apply Nat.le_of_not_lt
    intro h2
    have : X &&& 2 ^ D = 0 := by
      apply Nat.eq_of_testBit_eq
      intro i
      rw [Nat.testBit_and, Nat.zero_testBit, Nat.testBit_two_pow]
      by_cases e : D = i
      · subst e; rw [Nat.testBit_lt_two_pow h2]; rfl
      · simp [e]
    omega
  · intro h1
    apply Nat.pos_of_ne_zero
    intro h2
    have h3 : (X &&& 2 ^ D).testBit D = true := by
      rw [Nat.testBit_and, WoolMath.top_bit D X h1 h, Nat.testBit_two_pow_self]; rfl
    rw [h2, Nat.zero_testBit] at h3
    cases h3

/-- one bit more -/
def stp (M P b : Nat) : Nat := if 2 ^ M.log2 ≤ 2 * P + b then (2 * P + b) ^^^ M else 2 * P + b

theorem stp_eq (M P b : Nat) (hM : 2 ≤ M) (hP : P < 2 ^ M.log2) (hb : b ≤ 1) : stp M P b = WoolMath.pmod (2 * P + b) M := by
  have hM0 : M ≠ 0 := by omega
  have hpow : 2 ^ (M.log2 + 1) = 2 * 2 ^ M.log2 := by rw [Nat.pow_succ]; omega
  have hlt : 2 * P + b < 2 ^ (M.log2 + 1) := by omega
  unfold stp
  split
  · rename_i h
    symm
    obtain ⟨t1, t2⟩ := WoolMath.top_of M hM0
    refine WoolMath.pmod_of _ _ 1 _ hM0 ?_ ?_
    · rw [WoolMath.one_mul, Nat.xor_comm (2 * P + b), ← Nat.xor_assoc, Nat.xor_self, Nat.zero_xor]
    · generalize 2 * P + b = X at *
      apply Nat.lt_pow_two_of_testBit
      intro i hi
      rw [Nat.testBit_xor]
      by_cases e : i = M.log2
      · subst e; rw [WoolMath.top_bit _ X h hlt, WoolMath.top_bit _ M t1 t2]; rfl
      · rw [Nat.testBit_lt_two_pow (Nat.lt_of_lt_of_le hlt (Nat.pow_le_pow_right (by omega) (by omega))), Nat.testBit_lt_two_pow (Nat.lt_of_lt_of_le t2 (Nat.pow_le_pow_right (by omega) (by omega)))]
        rfl
  · rename_i h
    exact (WoolMath.pmod_small _ _ hM0 (by omega)).symm

theorem two_add (Y b : Nat) (hb : b ≤ 1) : 2 * Y + b = WoolMath.mul Y 2 ^^^ b := by
  have e : WoolMath.mul Y 2 = 2 * Y := by have := WoolMath.mul_pow Y 1; rw [Nat.pow_one] at this; omega
  rw [e]
  rcases Nat.lt_or_ge b 1 with h | h
  · have : b = 0 := by omega
    subst this; rw [Nat.xor_zero]; rfl
  · have : b = 1 := by omega
    subst this; exact (WoolMath.two_mul_xor_one Y).symm

theorem stp_mod (M Y b : Nat) (hM : 2 ≤ M) (hb : b ≤ 1) : stp M (WoolMath.pmod Y M) b = WoolMath.pmod (2 * Y + b) M := by
  rw [stp_eq M _ b hM (WoolMath.pmod_lt _ _ (by omega)) hb, two_add _ b hb, two_add Y b hb, WoolMath.pmod_xor _ _ _ (by omega), WoolMath.pmod_xor _ _ _ (by omega), WoolMath.pmod_mul_left _ _ _ (by omega)]

/-- a text's polynomial with the first j bits of a byte more -/
def part8 (X c j : Nat) : Nat := X * 2 ^ j + c / 2 ^ (8 - j)

theorem part8_zero (X c : Nat) (hc : c < 256) : part8 X c 0 = X := by
  unfold part8; rw [Nat.div_eq_of_lt (by omega)]; omega

theorem part8_next (X c j : Nat) (hj : j < 8) : part8 X c (j + 1) = 2 * part8 X c j + c / 2 ^ (7 - j) % 2 := by
  unfold part8
  have e1 : 8 - (j + 1) = 7 - j := by omega
  have e2 : 8 - j = 7 - j + 1 := by omega
  rw [e1, e2, Nat.pow_succ, Nat.pow_succ, ← Nat.div_div_eq_div_mul, ← Nat.mul_assoc]
  generalize c / 2 ^ (7 - j) = q
  omega

theorem part8_all (X : Nat) (c : UInt8) : part8 X c.toNat 8 = WoolMath.mul X 256 ^^^ c.toNat := by
  have hc : c.toNat < 256 := UInt8.toNat_lt _
  unfold part8
  rw [Nat.sub_self, Nat.pow_zero, Nat.div_one, show (256 : Nat) = 2 ^ 8 from rfl, WoolMath.mul_pow]
  generalize c.toNat = n at *
  have d := Nat.xor_div_two_pow (a := X * 2 ^ 8) (b := n) (n := 8)
  have m := Nat.xor_mod_two_pow (a := X * 2 ^ 8) (b := n) (n := 8)
  rw [show X * 2 ^ 8 / 2 ^ 8 = X from by omega, show n / 2 ^ 8 = 0 from by omega, Nat.xor_zero] at d
  rw [show X * 2 ^ 8 % 2 ^ 8 = 0 from by omega, show n % 2 ^ 8 = n from by omega, Nat.zero_xor] at m
  omega

set_option maxRecDepth 100000 in
theorem add_any' (b P M bp bt bm : Nat) (w : World) (hb : b ≤ 1) (hM : 2 ≤ M) (hM1 : M ≤ 2147483647) (hP : P < 2 ^ M.log2) (h1 : bp ≠ bt) (h2 : bp ≠ bm) (cp : Holds w bp P) (ct : Holds w bt (2 ^ M.log2)) (cm : Holds w bm M) :
    Calls Tryz.prog 33 #[.int .i64 (b : Int), .pointer (some ⟨bp, 0, none⟩), .pointer (some ⟨bt, 0, none⟩), .pointer (some ⟨bm, 0, none⟩)] w fun e w' => e = .returned (.tuple #[]) ∧ Holds w' bp (stp M P b) ∧ Only bp w w' := by
  have hpl := pow_log2_le M (by omega) hM1
  have hX : 2 * P + b < 2 ^ (M.log2 + 1) := by rw [Nat.pow_succ]; omega
  have hta := top_and M.log2 (2 * P + b) hX
  have hand := i64_and_nat (2 * P + b) (2 ^ M.log2) (by omega) (by omega)
  have hxor := i64_xor_nat (2 * P + b) M (by omega) (by omega)
  have hstp : stp M P b = if 2 ^ M.log2 ≤ 2 * P + b then (2 * P + b) ^^^ M else 2 * P + b := rfl
  generalize 2 ^ M.log2 = T at *
  have HA := Lib.hid hand
  have HX := Lib.hid hxor
  have HS := Lib.hid hstp
  have HTA := Lib.hid hta
  obtain ⟨cp1, cp2⟩ := cp
  obtain ⟨ct1, ct2⟩ := ct
  obtain ⟨cm1, cm2⟩ := cm
  clear hand hxor hstp hta hX
  rw [show ((2 * P + b : Nat) : Int) = 2 * (P : Int) + (b : Int) by omega] at HA HX
  by_cases hT : T ≤ 2 * P + b
  · have hd : decide (0 < bits .and .i64 (2 * (P : Int) + (b : Int)) (T : Int)) = true := by
      rw [decide_eq_true_iff, HA.out]
      have := HTA.out.2 hT
      omega
    have hs := HS.out
    rw [if_pos hT] at hs
    rw [hs]
    have HXX := Lib.hid HX.out
    clear hs
    generalize (2 * P + b) ^^^ M = Z at *
    go_enter Tryz.func33, Tryz.ntmps33
    go_wp2_with fail
    go_end0
    refine ⟨rfl, ?_⟩
    rw [HXX.out, show 2 * (P : Int) + (b : Int) = ((2 * P + b : Nat) : Int) by omega]
    exact ⟨((Holds.set ⟨cp1, cp2⟩ _).set Z), ((Only.refl _ _).set _).set _⟩
  · have hd : decide (0 < bits .and .i64 (2 * (P : Int) + (b : Int)) (T : Int)) = false := by
      rw [decide_eq_false_iff_not, HA.out]
      intro h
      exact hT (HTA.out.1 (by omega))
    have hs := HS.out
    rw [if_neg hT] at hs
    rw [hs]
    clear hs
    go_enter Tryz.func33, Tryz.ntmps33
    go_wp2_with fail
    go_end0
    refine ⟨rfl, ?_⟩
    rw [show 2 * (P : Int) + (b : Int) = ((2 * P + b : Nat) : Int) by omega]
    exact ⟨Holds.set ⟨cp1, cp2⟩ _, (Only.refl _ _).set _⟩

/-! ytbeigaanlhaolaagreatdoor# Print -/

theorem Holds.up {w w' : World} {b n : Nat} (h : Holds w b n) (hu : Up w w') (hb : b < w.heap.size) : Holds w' b n :=
  ⟨(Below.cell hu (p := ⟨b, 0, none⟩) hb).trans h.1, (Below.frozen hu (p := ⟨b, 0, none⟩) hb).trans h.2⟩

theorem Holds.lt {w : World} {b n : Nat} (h : Holds w b n) : b < w.heap.size := World.block_lt_of_cell? w _ h.1

theorem Holds.new (w : World) (n : Nat) (t : TypeId) : Holds (w.alloc (.cells #[.int .i64 (n : Int)] t)) w.heap.size n := by
  constructor
  · go_simp
  · go_simp

theorem Only.up {w wr w' : World} {b : Nat} (h : Only b wr w') (hu : Up w wr) (hb : w.heap.size ≤ b) : Up w w' := Below.trans hu (Below.mono h.1 hb)

def TopRel (M : Nat) (w : World) (wr : World) : Prop := ∃ j : Nat, 2 ^ j ≤ M ∧ Holds wr w.heap.size M ∧ Holds wr (w.heap.size + 1) (2 ^ j) ∧ Up w wr

def cellOf (b : Nat) (w : World) : Nat := match w.cell? ⟨b, 0, none⟩ with | some v => (intOf v).toNat | none => 0

theorem Holds.cellOf {w : World} {b n : Nat} (h : Holds w b n) : cellOf b w = n := by
  unfold Go.Proofs.YtbeigaanlhaolaaGreatDoor.cellOf
  rw [h.1]
  simp [intOf]

/-- the three cells -/
def Three (M b B P : Nat) (w wr : World) : Prop := Holds wr b M ∧ Holds wr (b + 1) (2 ^ M.log2) ∧ Holds wr B P ∧ Up w wr

theorem Three.step {M b B P Q : Nat} {w wr w' : World} (h : Three M b B P w wr) (ho : Only B wr w') (hq : Holds w' B Q) (h1 : b + 1 < B) (h2 : w.heap.size ≤ B) : Three M b B Q w w' :=
  ⟨ho.holds h.1 (by omega), ho.holds h.2.1 (by omega), hq, ho.up h.2.2.2 h2⟩

def POutRel (M B : Nat) (s : ByteArray) (w : World) (i : Value) (wr : World) : Prop :=
  ∃ k : Nat, k ≤ s.size ∧ i = .int .i64 k ∧ Three M w.heap.size B (fp M (s.data.toList.take k)) w wr

def PInRel (M B X c : Nat) (w : World) (b : Value) (wr : World) : Prop :=
  ∃ j : Nat, j ≤ 8 ∧ b = .int .i64 ((128 / 2 ^ j : Nat) : Int) ∧ Three M w.heap.size B (WoolMath.pmod (part8 X c j) M) w wr

theorem half_pow (j : Nat) (h : j < 8) : 128 / 2 ^ j = 2 ^ (7 - j) := by
  have : ∀ j, j < 8 → 128 / 2 ^ j = 2 ^ (7 - j) := by decide
  exact this j h

theorem half_next (j : Nat) : 128 / 2 ^ (j + 1) = 128 / 2 ^ j / 2 := by rw [Nat.pow_succ, Nat.div_div_eq_div_mul]

theorem bit_cast (c V : Nat) (hc : c < 256) : (wrap64 ((c : Int) / (V : Int))).tmod 2 = ((c / V % 2 : Nat) : Int) := by
  have h : c / V ≤ c := Nat.div_le_self _ _
  rw [show (c : Int) / (V : Int) = ((c / V : Nat) : Int) from by simp]
  generalize c / V = q at *
  rw [show wrap64 (q : Int) = (q : Int) from by unfold wrap64; omega, Int.tmod_eq_emod_of_nonneg (by omega)]
  omega

set_option maxRecDepth 100000 in
set_option maxHeartbeats 400000 in
theorem refPrint_any (M : Nat) (s : ByteArray) (w : World) (h0 : 2 ≤ M) (h1 : M ≤ 2147483647) (hs : s.size ≤ 1000) :
    Calls Tryz.prog 18 #[.int .i64 (M : Int), .string s] w fun e w' => e = .returned (.int .i64 (fp M s.data.toList : Nat)) ∧ Up w w' := by
  have hmf : ∀ (fn : Fn) (first cap : Array Value) (w : World), (Instr.makeFunc fn first cap).run Tryz.prog w = .ok (.func fn first cap) w := fun _ _ _ _ => rfl
  generalize hF : fp M s.data.toList = F
  have HF := Lib.hid hF
  clear hF
  go_enter Tryz.func18, Tryz.ntmps18
  go_wp2_with fail
  go_loopw [10] (fun _ wr => TopRel M w wr) (fun _ wr => M - cellOf (w.heap.size + 1) wr)
  case atStart =>
    refine ⟨0, by rw [Nat.pow_zero]; omega, ?_, ?_, (Up.alloc _ _).trans (Up.alloc _ _)⟩
    · exact (Holds.new w M 3).up (Up.alloc _ _) (by simp)
    · have := Holds.new (w.alloc (.cells #[.int .i64 (M : Int)] 3)) 1 3
      simpa using this
  case round =>
    obtain ⟨j, hj, hm, ht, hu⟩ := hrel
    have hme := ht.cellOf
    have HME := Lib.hid hme
    have HM := Lib.hid hm
    have HT := Lib.hid ht
    have HU := Lib.hid hu
    have hpos : 0 < 2 ^ j := Nat.pow_pos (by omega)
    have hnx : 2 ^ (j + 1) = 2 * 2 ^ j := by rw [Nat.pow_succ]; omega
    have HNX := Lib.hid hnx
    have hlog : M < 2 * 2 ^ j → 2 ^ j = 2 ^ M.log2 := by
      intro h
      rw [WoolMath.log2_of j M hj (by rw [hnx]; exact h)]
    have HLOG := Lib.hid hlog
    obtain ⟨hm1, hm2⟩ := hm
    obtain ⟨ht1, ht2⟩ := ht
    clear hme hu hnx hlog
    generalize hV : 2 ^ j = V at *
    have HV := Lib.hid hV
    clear hV
    by_cases hle : V * 2 ≤ M
    · go_wp2_with fail
      go_roundw
      case rel =>
        refine ⟨j + 1, by rw [HNX.out]; omega, ?_, ?_, Below.setCell HU.out (by simp) _⟩
        · exact ((Only.refl (w.heap.size + 1) wr).set _).holds HM.out (by omega)
        · rw [HNX.out, show (V : Int) * 2 = ((2 * V : Nat) : Int) by omega]
          exact HT.out.set _
      case measure =>
        rw [HME.out, show (V : Int) * 2 = ((2 * V : Nat) : Int) by omega, (HT.out.set (2 * V)).cellOf]
        omega
    · have hV2 := HLOG.out (by omega)
      have HT2 := HT.out
      rw [hV2] at HT2
      have HT3 := Lib.hid HT2
      have hlt := HT2.lt
      have HM3 := Lib.hid (HM.out.up (Up.alloc wr (.cells #[.int .i64 1] 3)) (by omega))
      have HT4 := Lib.hid (HT3.out.up (Up.alloc wr (.cells #[.int .i64 1] 3)) hlt)
      have HP4 := Lib.hid (Holds.new wr 1 3)
      have HU4 := Lib.hid (HU.out.trans (Up.alloc wr (.cells #[.int .i64 1] 3)))
      have hsz := HU.out.size
      clear HT2 hV2
      go_wp2_with fail
      clear hm1 hm2 ht1 ht2 hle hj
      generalize hB : wr.heap.size = B at *
      have HB := Lib.hid hB
      clear hB
      go_loopw [19] (fun i wx => POutRel M B s w i wx) (fun i _ => s.size - (intOf i).toNat)
      case atStart => exact ⟨0, by omega, rfl, HM3.out, HT4.out, by rw [List.take_zero, fp_nil M h0]; exact HP4.out, HU4.out⟩
      case round =>
        clear HM3 HT4 HP4 HU4
        obtain ⟨k, hk, rfl, h3⟩ := hrel
        have H3 := Lib.hid h3
        clear h3
        by_cases hks : k < s.size
        · have hc : s[k].toNat < 256 := UInt8.toNat_lt _
          have hstart : WoolMath.pmod (part8 (sp (s.data.toList.take k)) s[k].toNat 0) M = fp M (s.data.toList.take k) := by rw [part8_zero _ _ hc]; rfl
          have hend : WoolMath.pmod (part8 (sp (s.data.toList.take k)) s[k].toNat 8) M = fp M (s.data.toList.take (k + 1)) := by rw [part8_all, ← sp_snoc, ← take_snoc s k hks]; rfl
          have HST := Lib.hid hstart
          have HEND := Lib.hid hend
          clear hstart hend
          generalize sp (s.data.toList.take k) = X at *
          go_wp2_with fail
          go_loopw [9] (fun b wy => PInRel M B X s[k].toNat w b wy) (fun b _ => (intOf b).toNat)
          case atStart => exact ⟨0, by omega, rfl, by rw [HST.out]; exact H3.out⟩
          case round =>
            obtain ⟨j, hj, rfl, hi3⟩ := hrel
            have HI3 := Lib.hid hi3
            clear hi3
            by_cases hj8 : j < 8
            · have hhp := half_pow j hj8
              have hnx := half_next j
              have hlt8 := part8_next X s[k].toNat j hj8
              rw [← hhp] at hlt8
              have hst := stp_mod M (part8 X s[k].toNat j) (s[k].toNat / (128 / 2 ^ j) % 2) h0 (by omega)
              rw [← hlt8] at hst
              have hpl := WoolMath.pmod_lt (part8 X s[k].toNat j) M (by omega)
              have hVp : 0 < 128 / 2 ^ j := by rw [hhp]; exact Nat.pow_pos (by omega)
              have hVm : 128 / 2 ^ j ≤ 128 := Nat.div_le_self _ _
              generalize 128 / 2 ^ j = V' at *
              have HNX' := Lib.hid hnx
              have HSTP := Lib.hid hst
              have HPL := Lib.hid hpl
              clear hhp hnx hlt8 hst hpl
              have hdv : s[k].toNat / V' ≤ s[k].toNat := Nat.div_le_self _ _
              go_wp2_with fail
              rw [bit_cast s[k].toNat V' hc]
              refine (add_any' _ _ M B (w.heap.size + 1) w.heap.size _ (by omega) h0 h1 HPL.out (by omega) (by omega) HI3.out.2.2.1 HI3.out.2.1 HI3.out.1).mono ?_
              rintro e w5 ⟨rfl, ho, hon⟩
              rw [HSTP.out] at ho
              have HN := Lib.hid (HI3.out.step hon ho hlt hsz)
              clear ho hon
              go_wp2_with fail
              go_roundw
              case rel => exact ⟨j + 1, by omega, by rw [HNX'.out]; go_num, HN.out⟩
              case measure => simp only [intOf]; omega
            · obtain rfl : j = 8 := by omega
              have h3' := HI3.out
              rw [HEND.out] at h3'
              have H3' := Lib.hid h3'
              clear h3'
              rw [show 128 / 2 ^ 8 = 0 from rfl]
              go_wp2_with fail
              go_roundw
              case rel => exact ⟨k + 1, by omega, by go_num, H3'.out⟩
              case measure => simp only [intOf]; omega
        · obtain rfl : k = s.size := by omega
          have h3 := H3.out
          rw [show s.data.toList.take s.size = s.data.toList from List.take_of_length_le (by simp), HF.out] at h3
          have HU5 := Lib.hid h3.2.2.2
          obtain ⟨_, _, ⟨hp1, hp2⟩, _⟩ := h3
          go_wp2_with fail
          go_ret
          exact ⟨rfl, HU5.out⟩

end Go.Proofs.YtbeigaanlhaolaaGreatDoor

/-
  What the reference's Frame and Unframe return. Conditions: as each says.
-/
namespace Go.Proofs.YtbeigaanlhaolaaGreatDoor
open Go.RowKit
open Go.Proofs

theorem refPrint_bs (M : Nat) (l : List UInt8) (w : World) (h0 : 2 ≤ M) (h1 : M ≤ 2147483647) (hs : l.length ≤ 1000) :
    Calls Tryz.prog 18 #[.int .i64 (M : Int), .string (bs l)] w fun e w' => e = .returned (.int .i64 (fp M l : Nat)) ∧ Up w w' := by
  have := refPrint_any M (bs l) w h0 h1 (by rw [bs_size]; exact hs)
  rwa [bs_list] at this

/-- one byte in a block of the call's own, as a text, in whatever world came behind it -/
theorem conv_late (K : Nat) (hK : K < 256) (v v' : World) (u : Up (v.alloc (.cells #[.int .u8 (K : Int)] 5)) v') : (convert 43 9 (.slice (some ⟨v.heap.size, 0, none⟩) 1 1)).run Tryz.prog v' = .ok (.string (bs (nb K 1))) v' := by
  have e : nb K 1 = [UInt8.ofNat K] := rfl
  rw [e]
  refine conv_cells [UInt8.ofNat K] v.heap.size 1 v' ?_
  intro j x hx
  match j with
  | 0 =>
    simp at hx
    subst hx
    refine (Below.cell u (p := ⟨v.heap.size, 0, none⟩) (by simp)).trans ((World.cell?_alloc_mark _ _ _ _ 0).trans ?_)
    rw [UInt8.toNat_ofNat_of_lt' (by simpa using hK)]
    rfl
  | j + 1 => simp at hx

set_option maxRecDepth 100000 in
set_option maxHeartbeats 8000000 in
theorem rframe_any (k : Int) (b : List UInt8) (w : World) (hbl : b.length ≤ 140737488351232) :
    Calls Tryz.prog 6 #[.agg #[.int .i64 k, .string (bs b)]] w fun e w' => e = .returned (putR k b) ∧ Up w w' := by
  have hsz := bs_size b
  by_cases h1 : k < 1 ∨ 255 < k
  · have HV : Hid (putR k b = .tuple #[.string ⟨#[]⟩, .int .i64 1]) := by
      show _ = _
      unfold putR putV
      rw [if_pos h1]
      rfl
    have H1 := Lib.hid h1
    clear hbl hsz h1
    go_enter Tryz.func6, Tryz.ntmps6
    go_wp2_with fail
    refine (refWithin_no k 1 255 _ (by have := H1.out; omega)).mono ?_
    rintro e w1 ⟨rfl, rfl⟩
    go_wp2_with fail
    go_ret2
    exact ⟨by rw [HV.out]; rfl, Up.alloc _ _⟩
  obtain ⟨K, rfl⟩ : ∃ K : Nat, k = (K : Int) := ⟨k.toNat, by omega⟩
  have k1 : 1 ≤ K := by omega
  have k2 : K ≤ 255 := by omega
  clear h1
  by_cases h3 : 700 < b.length
  · have HV : Hid (putR (K : Int) b = .tuple #[.string ⟨#[]⟩, .int .i64 2]) := by
      show _ = _
      unfold putR putV
      rw [if_neg (by omega), if_pos h3]
      rfl
    obtain ⟨n, hn⟩ : ∃ n, b.length = n := ⟨_, rfl⟩
    rw [hn] at hsz h3 hbl
    clear hn
    go_enter Tryz.func6, Tryz.ntmps6
    go_wp2_with fail
    refine (refWithin_yes (K : Int) 1 255 _ (by omega) (by omega)).mono ?_
    rintro e w1 ⟨rfl, rfl⟩
    go_wp2_with fail
    go_ret2
    exact ⟨by rw [HV.out]; rfl, Up.alloc _ _⟩
  have HV := Lib.hid (putR_ok (K := K) (b := b) k1 k2 (by omega))
  have hadd1 := add_bs (nb K 1) (nb b.length 2) (by rw [nb_length, nb_length]; omega)
  have hadd2 := add_bs (nb K 1 ++ nb b.length 2) b (by rw [List.length_append, nb_length, nb_length]; omega)
  rw [show nb K 1 ++ nb b.length 2 ++ b = hb K b by unfold hb; rw [List.append_assoc]] at hadd2
  have hhl := hb_length K b
  have hf := fp30 (hb K b)
  have hadd3 := add_bs (hb K b) (nb (fp 1073741907 (hb K b)) 4) (by rw [hhl, nb_length]; omega)
  rw [show hb K b ++ nb (fp 1073741907 (hb K b)) 4 = frm K b from rfl] at hadd3
  have HHL : Hid ((hb K b).length ≤ 1000) := by show (hb K b).length ≤ 1000; omega
  have hfr := from_bs (nb b.length 4) 2 2 rfl (by rw [nb_length]; omega)
  have h42 : (nb b.length 4).drop 2 = nb b.length 2 := by rw [nb_cons, nb_cons]; rfl
  rw [h42] at hfr
  obtain ⟨n, hn⟩ : ∃ n, b.length = n := ⟨_, rfl⟩
  rw [hn] at hsz hbl h3 hadd1 hadd2 hfr
  obtain ⟨A1, hA1⟩ : ∃ A, nb K 1 = A := ⟨_, rfl⟩
  obtain ⟨A2, hA2⟩ : ∃ A, nb n 2 = A := ⟨_, rfl⟩
  obtain ⟨H, hH⟩ : ∃ H, hb K b = H := ⟨_, rfl⟩
  rw [hH] at hadd2 hadd3 HHL hf
  obtain ⟨F, hF⟩ : ∃ F, fp 1073741907 H = F := ⟨_, rfl⟩
  rw [hF] at hadd3 hf
  obtain ⟨A4, hA4⟩ : ∃ A, nb F 4 = A := ⟨_, rfl⟩
  obtain ⟨A5, hA5⟩ : ∃ A, nb n 4 = A := ⟨_, rfl⟩
  rw [hA4] at hadd3
  rw [hA1, hA2] at hadd1 hadd2
  rw [hA5, hA2] at hfr
  obtain ⟨A3, hA3⟩ : ∃ A, A1 ++ A2 = A := ⟨_, rfl⟩
  rw [hA3] at hadd1 hadd2
  have HA1 := Lib.hid hA1
  have HA4 := Lib.hid hA4
  have HA5 := Lib.hid hA5
  have HF := Lib.hid hF
  have hw8 : IntKind.u8.wrap (K : Int) = (K : Int) := by rw [IntKind.wrap_u8]; omega
  clear hA1 hA2 hA3 hA4 hF hhl hn hH hA5 h42
  go_enter Tryz.func6, Tryz.ntmps6
  go_wp2_with fail
  refine (refWithin_yes (K : Int) 1 255 _ (by omega) (by omega)).mono ?_
  rintro e w1 ⟨rfl, rfl⟩
  go_wp2_with fail
  have q0 := World.cell?_alloc_new w #[.int .i64 (K : Int), .string (bs b)] 32 0
  have q1 := World.cell?_alloc_new w #[.int .i64 (K : Int), .string (bs b)] 32 1
  have q2 : w.heap.size < (w.alloc (.cells #[.int .i64 (K : Int), .string (bs b)] 32)).heap.size := by simp
  have HK : Hid (K < 256) := by show K < 256; omega
  have cv0 := conv_late K HK.out (w.alloc (.cells #[.int .i64 (K : Int), .string (bs b)] 32)) _ (Up.drew ((w.alloc (.cells #[.int .i64 (K : Int), .string (bs b)] 32)).alloc (.cells #[.int .u8 (K : Int)] 5)))
  rw [World.size_alloc, HA1.out] at cv0
  go_region_with (first
    | (go_at_call 17; ((with_reducible refine (four_any n _ (by omega)).mono ?_); rintro e w4 ⟨rfl, u4⟩; rw [HA5.out]; (first
      | (have uu := (Up.drew _).trans u4; change Up ((w.alloc (.cells #[.int .i64 (K : Int), .string (bs b)] 32)).alloc (.cells #[.int .u8 (K : Int)] 5)) w4 at uu; have cv := conv_late K HK.out (w.alloc (.cells #[.int .i64 (K : Int), .string (bs b)] 32)) w4 uu; rw [World.size_alloc, HA1.out] at cv; have f0 := (Below.cell u4 (p := ⟨w.heap.size, 0, none⟩) (Nat.lt_of_lt_of_le q2 (Up.alloc _ _).size)).trans ((Below.cell (Up.alloc _ _) (p := ⟨w.heap.size, 0, none⟩) q2).trans q0); have f1 := (Below.cell u4 (p := ⟨w.heap.size, 1, none⟩) (Nat.lt_of_lt_of_le q2 (Up.alloc _ _).size)).trans ((Below.cell (Up.alloc _ _) (p := ⟨w.heap.size, 1, none⟩) q2).trans q1); have HU := Lib.hid ((Up.alloc _ _).trans uu))
      | (have cv := conv_late K HK.out w4 _ (Up.refl _); rw [HA1.out] at cv; have f0 := (Below.cell u4 (p := ⟨w.heap.size, 0, none⟩) q2).trans q0; have f1 := (Below.cell u4 (p := ⟨w.heap.size, 1, none⟩) q2).trans q1; have g0 := (Below.cell (Up.alloc w4 (.cells #[.int .u8 (K : Int)] 5)) (p := ⟨w.heap.size, 0, none⟩) (Nat.lt_of_lt_of_le q2 u4.size)).trans f0; have g1 := (Below.cell (Up.alloc w4 (.cells #[.int .u8 (K : Int)] 5)) (p := ⟨w.heap.size, 1, none⟩) (Nat.lt_of_lt_of_le q2 u4.size)).trans f1; have HU := Lib.hid ((Up.drew _).trans u4))))))
  all_goals
    go_wp2_with fail
    refine (refPrint_bs 1073741907 H _ (by omega) (by omega) HHL.out).mono ?_
    rintro e w6 ⟨rfl, u6⟩
    rw [HF.out]
    go_wp2_with fail
    refine (four_any F _ (by omega)).mono ?_
    rintro e w7 ⟨rfl, u7⟩
    rw [HA4.out]
    go_wp2_with fail
    go_ret2
    exact ⟨by rw [HV.out]; rfl, (Up.alloc _ _).trans (HU.out.trans (by first | exact u6.trans u7 | exact (Up.alloc _ _).trans (u6.trans u7)))⟩

end Go.Proofs.YtbeigaanlhaolaaGreatDoor

/-
  The law FrameRow, walked: for every two frames and every text the Go text returns true; nothing that was there turns. Condition: a text that came in has at most 2^47 - 4096 bytes.
-/
namespace Go.Proofs.YtbeigaanlhaolaaGreatDoor
open Go.RowKit
open Go.Proofs

theorem Box2.lt {W : World} {B : Nat} {t : TypeId} {x y : Value} (h : Box2 W B t x y) : B < W.heap.size := (Array.getElem?_eq_some_iff.1 h).1
theorem Box2.up {W W' : World} {B : Nat} {t : TypeId} {x y : Value} (h : Box2 W B t x y) (u : Up W W') : Box2 W' B t x y := h.below u h.lt

end Go.Proofs.YtbeigaanlhaolaaGreatDoor
