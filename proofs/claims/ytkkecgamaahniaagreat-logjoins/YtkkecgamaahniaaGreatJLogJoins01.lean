/-
  Plain mathematics: a frame with some of sixteen bits side by side turned, in its body and its print, is no frame (Peterson, Brown). No condition but those that it says.
-/
import Derived.Test.YtkkecgamaahniaaGreatJB42
namespace Go.Proofs.YtkkecgamaahniaaGreat

theorem sp_nat (l : List UInt8) (c : UInt8) : sp (l ++ [c]) = sp l * 256 + c.toNat := by
  have h : c.toNat < 2 ^ 8 := c.toNat_lt
  rw [sp_snoc, show (256 : Nat) = 2 ^ 8 from rfl, WoolMath.mul_pow]
  have := Nat.shiftLeft_add_eq_or_of_lt h (sp l)
  rw [Nat.shiftLeft_eq] at this
  rw [this]
  apply Nat.eq_of_testBit_eq
  intro i
  rw [Nat.testBit_xor, Nat.testBit_or, Nat.testBit_mul_two_pow]
  by_cases hi : 8 ≤ i
  · have : c.toNat.testBit i = false := Nat.testBit_lt_two_pow (Nat.lt_of_lt_of_le h (Nat.pow_le_pow_right (by omega) hi))
    rw [this]
    simp
  · simp [hi]

theorem sp_parts (p q : List UInt8) : sp (p ++ q) = sp p * 256 ^ q.length + nv q := by
  induction q using snoc_ind with
  | h0 => rw [List.append_nil, nv_nil]; simp
  | hs l c ih =>
    rw [← List.append_assoc, sp_nat, ih, nv_snoc, List.length_append, List.length_singleton, Nat.pow_succ, ← Nat.mul_assoc]
    generalize sp p * 256 ^ l.length = z
    omega

theorem no_burst (p q p' q' : List UInt8) (T E : Nat) (hq : q.length = 4) (hq' : q'.length = 4) (hT0 : T ≠ 0) (hT : T < 65536) (h : sp (p' ++ q') = sp (p ++ q) ^^^ T * 2 ^ E) (h1 : nv q = fp 1073741907 p) : nv q' ≠ fp 1073741907 p' := by
  have e1 := sp_parts p q
  have e2 := sp_parts p' q'
  rw [hq, show 256 ^ 4 = 2 ^ 32 from rfl] at e1
  rw [hq', show 256 ^ 4 = 2 ^ 32 from rfl] at e2
  have l1 : nv q < 2 ^ 32 := by have := nv_lt q; rwa [hq] at this
  have l2 : nv q' < 2 ^ 32 := by have := nv_lt q'; rwa [hq'] at this
  have d1 : sp (p ++ q) / 2 ^ 32 = sp p := by omega
  have m1 : sp (p ++ q) % 2 ^ 32 = nv q := by omega
  have d2 : sp (p' ++ q') / 2 ^ 32 = sp p' := by omega
  have m2 : sp (p' ++ q') % 2 ^ 32 = nv q' := by omega
  rw [h, Nat.xor_div_two_pow, d1] at d2
  rw [h, Nat.xor_mod_two_pow, m1] at m2
  intro hc
  by_cases hE : 32 ≤ E
  · have hD : T * 2 ^ E / 2 ^ 32 = T * 2 ^ (E - 32) := by
      rw [show E = (E - 32) + 32 by omega, Nat.pow_add, ← Nat.mul_assoc, Nat.mul_div_cancel _ (by decide)]
      congr 2
    have hM : T * 2 ^ E % 2 ^ 32 = 0 := by
      rw [show E = (E - 32) + 32 by omega, Nat.pow_add, ← Nat.mul_assoc, Nat.mul_mod_left]
    rw [hM, Nat.xor_zero] at m2
    rw [hD] at d2
    have hb := burst_differ 1073741907 (by decide) (by decide) (sp p) T (E - 32) hT0 hT
    rw [d2] at hb
    unfold fp at h1 hc
    exact hb (by rw [← hc, ← h1, m2])
  · have hlt : T * 2 ^ E < 2 ^ 48 := by
      have : 2 ^ E ≤ 2 ^ 31 := Nat.pow_le_pow_right (by omega) (by omega)
      exact Nat.lt_of_le_of_lt (Nat.mul_le_mul (show T ≤ 65535 by omega) this) (by decide)
    have hD : T * 2 ^ E / 2 ^ 32 < 65536 := by omega
    have hx : WoolMath.pmod (T * 2 ^ E / 2 ^ 32) 1073741907 = T * 2 ^ E / 2 ^ 32 := WoolMath.pmod_small _ _ (by decide) (Nat.lt_of_lt_of_le hD (by decide +kernel))
    have hl := WoolMath.pmod_xor (sp p) (T * 2 ^ E / 2 ^ 32) 1073741907 (by decide)
    rw [d2, hx] at hl
    unfold fp at h1 hc
    rw [← hc, ← h1, ← m2] at hl
    have heq : T * 2 ^ E % 2 ^ 32 = T * 2 ^ E / 2 ^ 32 := by
      have hk := congrArg (fun x => nv q ^^^ x) hl
      simp only [← Nat.xor_assoc, Nat.xor_self, Nat.zero_xor] at hk
      exact hk
    have hpos : 0 < T * 2 ^ E := Nat.mul_pos (by omega) (Nat.pow_pos (by omega))
    by_cases h16 : E ≤ 16
    · have : T * 2 ^ E < 2 ^ 32 := by
        have : 2 ^ E ≤ 2 ^ 16 := Nat.pow_le_pow_right (by omega) h16
        exact Nat.lt_of_le_of_lt (Nat.mul_le_mul (show T ≤ 65535 by omega) this) (by decide)
      omega
    · have hdv : T * 2 ^ E % 2 ^ E = 0 := Nat.mul_mod_left _ _
      have hdv2 : T * 2 ^ E % 2 ^ 32 % 2 ^ E = 0 := by
        rw [Nat.mod_mod_of_dvd _ (Nat.pow_dvd_pow 2 (by omega)), hdv]
      rw [heq] at hdv2
      have hpe : 65536 ≤ 2 ^ E := by
        have : 2 ^ 16 ≤ 2 ^ E := Nat.pow_le_pow_right (by omega) (by omega)
        simpa using this
      rw [Nat.mod_eq_of_lt (by omega)] at hdv2
      omega

/-- a text that begins as a frame does, with some bits of its body and print turned -/
theorem get_burst_all (K : Nat) (b y : List UInt8) (T E : Nat) (h0 : 1 ≤ K) (h1 : K ≤ 255) (h2 : b.length ≤ 700) (hlen : y.length = b.length + 7) (h3 : y.take 3 = (frm K b).take 3) (hT0 : T ≠ 0) (hT : T < 65536) (hsp : sp y = sp (frm K b) ^^^ T * 2 ^ E) :
    getV y = ((0, []), 0, 6) := by
  obtain ⟨a1, a2, a3, a4, a5⟩ := frm_head K b [] (by omega) (by omega)
  rw [List.append_nil] at a1 a2 a3 a4 a5
  have hfl := frm_length K b
  have b1 : y.take 1 = (frm K b).take 1 := by
    have := congrArg (List.take 1) h3
    rwa [List.take_take, List.take_take] at this
  have b2 : bl y = bl (frm K b) := by
    unfold bl
    have := congrArg (List.drop 1) h3
    rw [List.drop_take, List.drop_take] at this
    exact congrArg nv this
  have hyp : y = y.take (3 + b.length) ++ (y.drop (3 + b.length)).take 4 := by
    rw [List.take_of_length_le (l := y.drop (3 + b.length)) (by rw [List.length_drop]; omega), List.take_append_drop]
  have hfp : frm K b = (frm K b).take (3 + b.length) ++ ((frm K b).drop (3 + b.length)).take 4 := by
    rw [List.take_of_length_le (l := (frm K b).drop (3 + b.length)) (by rw [List.length_drop]; omega), List.take_append_drop]
  have hno := no_burst ((frm K b).take (3 + b.length)) (((frm K b).drop (3 + b.length)).take 4) (y.take (3 + b.length)) ((y.drop (3 + b.length)).take 4) T E
    (by rw [List.length_take, List.length_drop]; omega) (by rw [List.length_take, List.length_drop]; omega) hT0 hT (by rw [← hyp, ← hfp]; exact hsp)
    (by rw [a5, a4]; exact nv_nb 4 _ (Nat.lt_of_lt_of_le (fp30 _) (by decide)))
  unfold getV
  rw [b1, b2, a1, a2, hlen, if_neg (by omega), if_neg (by omega), if_neg (by omega), if_pos hno]

/-- a frame with some bits of its body and print turned -/
theorem get_burst (K : Nat) (b l : List UInt8) (T E : Nat) (h0 : 1 ≤ K) (h1 : K ≤ 255) (h2 : b.length ≤ 700) (hl : l.length = b.length + 4) (hT0 : T ≠ 0) (hT : T < 65536) (h : sp l = sp ((frm K b).drop 3) ^^^ T * 2 ^ E) :
    getV ((frm K b).take 3 ++ l) = ((0, []), 0, 6) := by
  obtain ⟨a1, a2, a3, a4, a5⟩ := frm_head K b [] (by omega) (by omega)
  rw [List.append_nil] at a1 a2 a3 a4 a5
  have hfl := frm_length K b
  have ht3 : ((frm K b).take 3).length = 3 := by rw [List.length_take]; omega
  have hlen : ((frm K b).take 3 ++ l).length = b.length + 7 := by rw [List.length_append, ht3, hl]; omega
  have b1 : ((frm K b).take 3 ++ l).take 1 = (frm K b).take 1 := by
    rw [List.take_append_of_le_length (by omega), List.take_take]; rfl
  have b2 : bl ((frm K b).take 3 ++ l) = bl (frm K b) := by
    unfold bl
    rw [List.drop_append_of_le_length (by omega), List.take_append_of_le_length (by rw [List.length_drop]; omega), List.drop_take, List.take_take]
    rfl
  have hsp : sp ((frm K b).take 3 ++ l) = sp (frm K b) ^^^ T * 2 ^ E := by
    have e1 := sp_append ((frm K b).take 3) l
    have e2 := sp_append ((frm K b).take 3) ((frm K b).drop 3)
    rw [List.take_append_drop] at e2
    rw [show ((frm K b).drop 3).length = l.length by rw [List.length_drop]; omega] at e2
    rw [e1, e2, h]
    simp only [Nat.xor_assoc]
    congr 2
    exact Nat.xor_comm _ _
  obtain ⟨y, hy⟩ : ∃ y, (frm K b).take 3 ++ l = y := ⟨_, rfl⟩
  rw [hy] at hsp hlen b1 b2 ⊢
  have hyp : y = y.take (3 + b.length) ++ (y.drop (3 + b.length)).take 4 := by
    rw [List.take_of_length_le (l := y.drop (3 + b.length)) (by rw [List.length_drop]; omega), List.take_append_drop]
  have hfp : frm K b = (frm K b).take (3 + b.length) ++ ((frm K b).drop (3 + b.length)).take 4 := by
    rw [List.take_of_length_le (l := (frm K b).drop (3 + b.length)) (by rw [List.length_drop]; omega), List.take_append_drop]
  have hno := no_burst ((frm K b).take (3 + b.length)) (((frm K b).drop (3 + b.length)).take 4) (y.take (3 + b.length)) ((y.drop (3 + b.length)).take 4) T E
    (by rw [List.length_take, List.length_drop]; omega) (by rw [List.length_take, List.length_drop]; omega) hT0 hT (by rw [← hyp, ← hfp]; exact hsp)
    (by rw [a5, a4]; exact nv_nb 4 _ (Nat.lt_of_lt_of_le (fp30 _) (by decide)))
  unfold getV
  rw [b1, b2, a1, a2, hlen, if_neg (by omega), if_neg (by omega), if_neg (by omega), if_pos hno]

end Go.Proofs.YtkkecgamaahniaaGreat
