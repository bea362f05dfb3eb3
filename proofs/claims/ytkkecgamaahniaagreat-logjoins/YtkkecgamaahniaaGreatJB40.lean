/-
  The texts LogN, ByteS, one behind the other; each says below what it holds and on what conditions.
-/
import Derived.Test.YtkkecgamaahniaaGreatJB38
import Derived.Test.YtkkecgamaahniaaGreatJB01
import Derived.OwnWalk
import Derived.Laws.OwnMore
import Derived.BigRegion
import Derived.Deep.RegionLaw
import Derived.Deep.AppendLies

/-
  Deeds read off bytes as the program reads them, in plain words: the raw deed, and that it is the one whose encoding the bytes are. Conditions: as each says.
-/
namespace WoolVol

/-- the text that s begins with, behind its length, as much as is there, and what is left -/
def cutR : List UInt8 → List UInt8 × List UInt8
  | [] => ([], [])
  | n :: r => (r.take n.toNat, r.drop n.toNat)

/-- the deed that bytes begin with -/
def rawO : List UInt8 → Opn
  | k :: a :: r => ⟨(k.toNat : Int), (cutR r).1, (cutR (cutR r).2).1, (a.toNat : Int), (cutR (cutR (cutR r).2).2).1⟩
  | _ => ⟨0, [], [], 0, []⟩

theorem cutR_len (t r : List UInt8) (h : t.length < 256) : cutR (lenT t ++ r) = (t, r) := by
  have e : (UInt8.ofNat t.length).toNat = t.length := by rw [UInt8.toNat_ofNat']; omega
  show ((t ++ r).take (UInt8.ofNat t.length).toNat, (t ++ r).drop (UInt8.ofNat t.length).toNat) = _
  rw [e]
  simp

theorem raw_enc {o : Opn} (h : chkO o = 0) : rawO (encO o) = o := by
  obtain ⟨h1, h2, h3, h4, h5, h6, h7, h8, _⟩ := chkO_ok h
  have hn := nameB_len h3
  have ht := chkO_to h
  have ek : ((UInt8.ofNat o.kd.toNat).toNat : Int) = o.kd := by rw [UInt8.toNat_ofNat']; omega
  have ea : ((UInt8.ofNat o.pl.toNat).toNat : Int) = o.pl := by rw [UInt8.toNat_ofNat']; omega
  have e3 : cutR (lenT o.tx) = (o.tx, []) := by
    have := cutR_len o.tx [] (by omega)
    rwa [List.append_nil] at this
  unfold encO rawO
  simp only [cutR_len o.nm _ (by omega), cutR_len o.to _ (by omega), e3, ek, ea]

/-- what Decode answers -/
theorem dec_raw (s : List UInt8) : decO s = if s.length < 2 then none else if chkO (rawO s) = 0 ∧ encO (rawO s) = s then some (rawO s) else none := by
  by_cases h2 : s.length < 2
  · rw [if_pos h2]
    match s, h2 with
    | [], _ => rfl
    | [_], _ => rfl
  · rw [if_neg h2]
    by_cases hc : chkO (rawO s) = 0 ∧ encO (rawO s) = s
    · rw [if_pos hc]
      have := dec_enc hc.1
      rwa [hc.2] at this
    · rw [if_neg hc]
      cases e : decO s with
      | none => rfl
      | some o =>
        obtain ⟨h3, h4⟩ := enc_dec e
        have h5 := raw_enc h4
        rw [← h3] at h5
        exact absurd ⟨by rw [h5]; exact h4, by rw [h5]; exact h3.symm⟩ hc

theorem cutR_le (s : List UInt8) : (cutR s).1.length ≤ s.length ∧ (cutR s).2.length ≤ s.length ∧ (cutR s).1.length ≤ 255 := by
  cases s with
  | nil => simp [cutR]
  | cons n r =>
    have := n.toNat_lt
    simp only [cutR, List.length_cons, List.length_take, List.length_drop]
    omega

theorem rawO_le (s : List UInt8) : (rawO s).nm.length ≤ 255 ∧ (rawO s).to.length ≤ 255 ∧ (rawO s).tx.length ≤ 255 ∧ 0 ≤ (rawO s).kd ∧ (rawO s).kd ≤ 255 ∧ 0 ≤ (rawO s).pl ∧ (rawO s).pl ≤ 255 := by
  match s with
  | [] => simp [rawO]
  | [_] => simp [rawO]
  | k :: a :: r =>
    have hk := k.toNat_lt
    have ha := a.toNat_lt
    refine ⟨(cutR_le r).2.2, (cutR_le _).2.2, (cutR_le _).2.2, ?_, ?_, ?_, ?_⟩ <;> simp only [rawO] <;> omega

end WoolVol

/-
  Slices of bytes that the call owns, and the string of one. Conditions: as each says.
-/
namespace Go.Proofs.YtkkecgamaahniaaGreat
open Go.RowKit
open Go.Proofs

/-- bytes as cells -/
def byteL (l : List UInt8) : List Value := l.map fun c : UInt8 => .int .u8 (c.toNat : Int)

theorem byteL_length (l : List UInt8) : (byteL l).length = l.length := by simp [byteL]
theorem byteL_get (l : List UInt8) (j : Nat) (h : j < l.length) : (byteL l)[j]? = some (.int .u8 ((l[j].toNat : Nat) : Int)) := by
  simp [byteL, h]
theorem byteL_snoc (l : List UInt8) (x : UInt8) : byteL (l ++ [x]) = byteL l ++ [.int .u8 (x.toNat : Int)] := by simp [byteL]

theorem byteInfo : (Tryz.prog.info? 5).map (fun i => (i.zero, i.size, i.bytes)) = some (some (.int .u8 0), 1, 1) := by kernel_rfl

/-- a slice of bytes that reads as a list -/
def Bytes (w : World) (base : Nat) (v : Value) (l : List UInt8) : Prop := w.ownsRow base 5 1 v l.length (byteL l)

theorem Bytes.up {w w' : World} {base : Nat} {v : Value} {l : List UInt8} (h : Bytes w base v l) (hu : Up w w') : Bytes w' base v l := by
  refine ⟨h.1, ?_⟩
  rcases h.2 with h | ⟨g, cap, cur, h1, h2, h3, h4⟩
  · exact .inl h
  · refine .inr ⟨g, cap, cur, h1, h2, ?_, h4⟩
    have hg : g < w.heap.size := by
      rcases Nat.lt_or_ge g w.heap.size with hlt | hge
      · exact hlt
      · rw [Array.getElem?_eq_none hge] at h3; cases h3
    rw [← h3]; exact hu.block g hg

theorem Bytes.nil (w : World) (base : Nat) : Bytes w base (.slice none 0 0) [] := World.ownsRow_nil _ _ _ _

theorem conv_none (w : World) : (convert 50 9 (.slice none 0 0)).run Tryz.prog w = .ok (.string ⟨#[]⟩) w := by
  rw [run_convert_bytes_string w 50 9 5 none 0 0 Tryz.underlying50 Tryz.underlying5 Tryz.underlying9]
  rfl

theorem Bytes.conv {w : World} {base : Nat} {v : Value} {l : List UInt8} (h : Bytes w base v l) : (convert 50 9 v).run Tryz.prog w = .ok (.string ⟨l.toArray⟩) w := by
  rcases h.2 with ⟨rfl, h0⟩ | ⟨g, cap, cur, rfl, _⟩
  · have : l = [] := List.eq_nil_of_length_eq_zero h0
    subst this
    exact conv_none w
  · refine run_convert_bytes_back (P := Tryz.prog) _ 50 9 5 _ cap l Tryz.underlying50 Tryz.underlying5 Tryz.underlying9 ?_
    intro j hj
    have := (World.ownsRow.cellAt h j (by omega)).trans (byteL_get l j hj)
    rw [← this]
    congr 1
    unfold Addr.add
    split
    · rename_i e; subst e; rfl
    · simp

theorem one_memB (x : Value) (h : x.oneCell' = true) : ∀ u ∈ [x], u.oneCell' = true := by
  intro u hu; rw [List.mem_singleton] at hu; rw [hu]; exact h

theorem grown_upB {w wr w' : World} {v : Value} {n : Nat} {xs : List Value} {e : TypeId} (hu : Up w wr) (hown : wr.ownsRow w.heap.size e 1 v n xs) (hg : wr.grownBy w' v.ownBlock) : Up w w' :=
  Below.grown hu hg hu.size (fun k hk => (hown.lt k hk).1)

theorem conv_byte (c : UInt8) (v : World) : (convert 50 9 (.slice (some ⟨v.heap.size, 0, none⟩) 1 1)).run Tryz.prog (v.alloc (.cells #[.int .u8 (c.toNat : Int)] 5)) = .ok (.string ⟨#[c]⟩) (v.alloc (.cells #[.int .u8 (c.toNat : Int)] 5)) := by
  refine run_convert_bytes_back (P := Tryz.prog) _ 50 9 5 _ 1 [c] Tryz.underlying50 Tryz.underlying5 Tryz.underlying9 ?_
  intro j hj
  have : j = 0 := by simpa using hj
  subst this
  exact World.cell?_alloc_mark _ _ _ _ 0

theorem byte_of (a : Int) (h : (Lit.int .u8 a).wf = true) : ∃ c : UInt8, a = (c.toNat : Int) := by
  have h1 : 0 ≤ a ∧ a < 256 := by
    simp [Lit.wf] at h
    have e1 : IntKind.u8.min = 0 := by decide
    have e2 : IntKind.u8.max = 255 := by decide
    omega
  obtain ⟨n, rfl⟩ := Int.eq_ofNat_of_zero_le h1.1
  refine ⟨UInt8.ofNat n, ?_⟩
  have : n < 256 := by omega
  rw [UInt8.toNat_ofNat_of_lt' this]

theorem one_byte (c : UInt8) : (⟨#[c]⟩ : ByteArray).data.toList = [c] := rfl

end Go.Proofs.YtkkecgamaahniaaGreat
