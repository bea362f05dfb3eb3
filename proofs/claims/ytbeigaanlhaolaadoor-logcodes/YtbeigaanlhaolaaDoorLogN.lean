/-
  Deeds read off bytes as the program reads them, in plain words: the raw deed, and that it is the one whose encoding the bytes are. Conditions: as each says.
-/
import Derived.Test.YtbeigaanlhaolaaDoorLogM
namespace WoolVol

/-- the text that s begins with, behind its length, as much as is there, and what is left -/
def cutR : List UInt8 → List UInt8 × List UInt8
  | [] => ([], [])
  | n :: r => (r.take n.toNat, r.drop n.toNat)

/-- the deed that bytes begin with -/
def rawO : List UInt8 → Opn
  | k :: a :: r => ⟨(k.toNat : Int), (cutR r).1, (cutR (cutR r).2).1, (a.toNat : Int), (cutR (cutR (cutR r).2).2).1⟩
  | _ => ⟨0, [], [], 0, []⟩

theorem cutR_len (t r : List UInt8) (h : t.length < 256) : cutR (lenT t ++ r) = (t, r) := by
  have e : (UInt8.ofNat t.length).toNat = t.length := by rw [UInt8.toNat_ofNat']; omega
  show ((t ++ r).take (UInt8.ofNat t.length).toNat, (t ++ r).drop (UInt8.ofNat t.length).toNat) = _
  rw [e]
  simp

theorem raw_enc {o : Opn} (h : chkO o = 0) : rawO (encO o) = o := by
  obtain ⟨h1, h2, h3, h4, h5, h6, h7, h8, _⟩ := chkO_ok h
  have hn := nameB_len h3
  have ht := chkO_to h
  have ek : ((UInt8.ofNat o.kd.toNat).toNat : Int) = o.kd := by rw [UInt8.toNat_ofNat']; omega
  have ea : ((UInt8.ofNat o.pl.toNat).toNat : Int) = o.pl := by rw [UInt8.toNat_ofNat']; omega
  have e3 : cutR (lenT o.tx) = (o.tx, []) := by
    have := cutR_len o.tx [] (by omega)
    rwa [List.append_nil] at this
  unfold encO rawO
  simp only [cutR_len o.nm _ (by omega), cutR_len o.to _ (by omega), e3, ek, ea]

/-- what Decode answers -/
theorem dec_raw (s : List UInt8) : decO s = if s.length < 2 then none else if chkO (rawO s) = 0 ∧ encO (rawO s) = s then some (rawO s) else none := by
  by_cases h2 : s.length < 2
  · rw [if_pos h2]
    match s, h2 with
    | [], _ => rfl
    | [_], _ => rfl
  · rw [if_neg h2]
    by_cases hc : chkO (rawO s) = 0 ∧ encO (rawO s) = s
    · rw [if_pos hc]
      have := dec_enc hc.1
      rwa [hc.2] at this
    · rw [if_neg hc]
      cases e : decO s with
      | none => rfl
      | some o =>
        obtain ⟨h3, h4⟩ := enc_dec e
        have h5 := raw_enc h4
        rw [← h3] at h5
        exact absurd ⟨by rw [h5]; exact h4, by rw [h5]; exact h3.symm⟩ hc

theorem cutR_le (s : List UInt8) : (cutR s).1.length ≤ s.length ∧ (cutR s).2.length ≤ s.length ∧ (cutR s).1.length ≤ 255 := by
  cases s with
  | nil => simp [cutR]
  | cons n r =>
    have := n.toNat_lt
    simp only [cutR, List.length_cons, List.length_take, List.length_drop]
    omega

theorem rawO_le (s : List UInt8) : (rawO s).nm.length ≤ 255 ∧ (rawO s).to.length ≤ 255 ∧ (rawO s).tx.length ≤ 255 ∧ 0 ≤ (rawO s).kd ∧ (rawO s).kd ≤ 255 ∧ 0 ≤ (rawO s).pl ∧ (rawO s).pl ≤ 255 := by
  match s with
  | [] => simp [rawO]
  | [_] => simp [rawO]
  | k :: a :: r =>
    have hk := k.toNat_lt
    have ha := a.toNat_lt
    refine ⟨(cutR_le r).2.2, (cutR_le _).2.2, (cutR_le _).2.2, ?_, ?_, ?_, ?_⟩ <;> simp only [rawO] <;> omega

end WoolVol
