/-
  Slices of bytes that the call owns, and what the laws' helpers xor and burst return. Conditions: as each says.
-/
import Derived.Test.YtidofplebkbbmaaLawPrint
import Derived.OwnWalk
import Derived.Laws.OwnMore
import Derived.BigRegion
import Derived.Deep.RegionLaw
import Derived.Deep.AppendLies
namespace Go.Proofs.Ytidofplebkbbmaa
open Go.RowKit
open Go.Proofs

theorem Up.drew (w : World) : Up w w.drew := Below.drew (Up.refl w)

/-- bytes as cells -/
def byteL (l : List UInt8) : List Value := l.map fun c : UInt8 => .int .u8 (c.toNat : Int)

theorem byteL_length (l : List UInt8) : (byteL l).length = l.length := by simp [byteL]
theorem byteL_get (l : List UInt8) (j : Nat) (h : j < l.length) : (byteL l)[j]? = some (.int .u8 ((l[j].toNat : Nat) : Int)) := by
  simp [byteL, h]
theorem byteL_snoc (l : List UInt8) (x : UInt8) : byteL (l ++ [x]) = byteL l ++ [.int .u8 (x.toNat : Int)] := by simp [byteL]

theorem byteInfo : (Try.prog.info? 5).map (fun i => (i.zero, i.size, i.bytes)) = some (some (.int .u8 0), 1, 1) := by kernel_rfl

/-- a slice of bytes that reads as a list -/
def Bytes (w : World) (base : Nat) (v : Value) (l : List UInt8) : Prop := w.ownsRow base 5 1 v l.length (byteL l)

theorem Bytes.up {w w' : World} {base : Nat} {v : Value} {l : List UInt8} (h : Bytes w base v l) (hu : Up w w') : Bytes w' base v l := by
  refine ⟨h.1, ?_⟩
  rcases h.2 with h | ⟨g, cap, cur, h1, h2, h3, h4⟩
  · exact .inl h
  · refine .inr ⟨g, cap, cur, h1, h2, ?_, h4⟩
    have hg : g < w.heap.size := by
      rcases Nat.lt_or_ge g w.heap.size with hlt | hge
      · exact hlt
      · rw [Array.getElem?_eq_none hge] at h3; cases h3
    rw [← h3]; exact hu.block g hg

theorem Bytes.nil (w : World) (base : Nat) : Bytes w base (.slice none 0 0) [] := World.ownsRow_nil _ _ _ _

theorem conv_none (w : World) : (convert 60 9 (.slice none 0 0)).run Try.prog w = .ok (.string ⟨#[]⟩) w := by
  rw [run_convert_bytes_string w 60 9 5 none 0 0 Try.underlying60 Try.underlying5 Try.underlying9]
  rfl

theorem Bytes.conv {w : World} {base : Nat} {v : Value} {l : List UInt8} (h : Bytes w base v l) : (convert 60 9 v).run Try.prog w = .ok (.string ⟨l.toArray⟩) w := by
  rcases h.2 with ⟨rfl, h0⟩ | ⟨g, cap, cur, rfl, _⟩
  · have : l = [] := List.eq_nil_of_length_eq_zero h0
    subst this
    exact conv_none w
  · refine run_convert_bytes_back (P := Try.prog) _ 60 9 5 _ cap l Try.underlying60 Try.underlying5 Try.underlying9 ?_
    intro j hj
    have := (World.ownsRow.cellAt h j (by omega)).trans (byteL_get l j hj)
    rw [← this]
    congr 1
    unfold Addr.add
    split
    · rename_i e; subst e; rfl
    · simp

theorem one_memB (x : Value) (h : x.oneCell' = true) : ∀ u ∈ [x], u.oneCell' = true := by
  intro u hu; rw [List.mem_singleton] at hu; rw [hu]; exact h

theorem grown_upB {w wr w' : World} {v : Value} {n : Nat} {xs : List Value} {e : TypeId} (hu : Up w wr) (hown : wr.ownsRow w.heap.size e 1 v n xs) (hg : wr.grownBy w' v.ownBlock) : Up w w' :=
  Below.grown hu hg hu.size (fun k hk => (hown.lt k hk).1)

theorem u8_xor (a b : UInt8) : bits .xor .u8 (a.toNat : Int) (b.toNat : Int) = ((a ^^^ b).toNat : Int) := by
  have ha : a.toNat < 256 := UInt8.toNat_lt _
  have hb : b.toNat < 256 := UInt8.toNat_lt _
  have hx : (a ^^^ b).toNat < 256 := UInt8.toNat_lt _
  have e : ∀ n : Nat, n < 256 → (BitVec.ofInt 8 (n : Int)).toNat = n := by
    intro n hn
    rw [BitVec.ofInt_natCast, BitVec.toNat_ofNat]; exact Nat.mod_eq_of_lt hn
  show IntKind.u8.wrap ((BitVec.ofInt 8 (a.toNat : Int) ^^^ BitVec.ofInt 8 (b.toNat : Int)).toNat : Int) = _
  rw [BitVec.toNat_xor, e _ ha, e _ hb, ← UInt8.toNat_xor]
  generalize (a ^^^ b).toNat = n at *
  simp only [IntKind.wrap, IntKind.bits, IntKind.signed]
  simp
  omega

/-! ytidofplebkbbmaa# xor -/

def XorRel (s t u : ByteArray) (w : World) (out i : Value) (wr : World) : Prop :=
  ∃ k : Nat, k ≤ s.size ∧ i = .int .i64 k ∧ Bytes wr w.heap.size out (xor3 (s.data.toList.take k) (t.data.toList.take k) (u.data.toList.take k)) ∧ Up w wr

theorem take_len (s : ByteArray) (k : Nat) (h : k ≤ s.size) : (s.data.toList.take k).length = k := by
  rw [List.length_take, ba_length]; omega

set_option maxRecDepth 100000 in
set_option maxHeartbeats 400000 in
theorem xor_any (s t u : ByteArray) (w : World) (hs : s.size ≤ 140737488351232) (ht : t.size = s.size) (hu : u.size = s.size) :
    Calls Try.prog 35 #[.string s, .string t, .string u] w fun e w' => e = .returned (.string ⟨(xor3 s.data.toList t.data.toList u.data.toList).toArray⟩) ∧ Up w w' := by
  obtain ⟨i0, hi, hz0, hz1, hz2⟩ := info_parts byteInfo
  have HI := Lib.hid hi
  have HZ0 := Lib.hid hz0
  have HZ1 := Lib.hid hz1
  have HZ2 := Lib.hid hz2
  have HT := Lib.hid ht
  have HU := Lib.hid hu
  clear hi hz0 hz1 hz2 ht hu
  generalize hR : xor3 s.data.toList t.data.toList u.data.toList = R
  have HR := Lib.hid hR
  clear hR
  go_enter Try.func35, Try.ntmps35
  go_wp2_with fail
  go_loopw [7, 11] (fun out i wr => XorRel s t u w out i wr) (fun _ i _ => s.size - (intOf i).toNat)
  case atStart => exact ⟨0, by omega, rfl, Bytes.nil _ _, Up.refl w⟩
  case round =>
    obtain ⟨k, hk, rfl, hb, hup⟩ := hrel
    have HB := Lib.hid hb
    have HUP := Lib.hid hup
    clear hb hup
    by_cases hlt : k < s.size
    · have hkt : k < t.size := by have := HT.out; omega
      have hku : k < u.size := by have := HU.out; omega
      have hnext := xor3_snoc (s.data.toList.take k) (t.data.toList.take k) (u.data.toList.take k) s[k] t[k] u[k] (by rw [take_len _ _ (by omega), take_len _ _ (by omega)]) (by rw [take_len _ _ (by omega), take_len _ _ (by omega)])
      rw [← take_snoc s k hlt, ← take_snoc t k hkt, ← take_snoc u k hku] at hnext
      have hlen := xor3_length (s.data.toList.take k) (t.data.toList.take k) (u.data.toList.take k) (by rw [take_len _ _ (by omega), take_len _ _ (by omega)]) (by rw [take_len _ _ (by omega), take_len _ _ (by omega)])
      rw [take_len _ _ (by omega)] at hlen
      have hx1 := u8_xor s[k] t[k]
      have hx2 := u8_xor (s[k] ^^^ t[k]) u[k]
      rw [← hx1] at hx2
      generalize hL : xor3 (s.data.toList.take k) (t.data.toList.take k) (u.data.toList.take k) = L at *
      generalize hL' : xor3 (s.data.toList.take (k + 1)) (t.data.toList.take (k + 1)) (u.data.toList.take (k + 1)) = L' at *
      generalize hC : s[k] ^^^ t[k] ^^^ u[k] = c at *
      have HN := Lib.hid hnext
      have HL' := Lib.hid hL'
      have HLEN := Lib.hid hlen
      have HX := Lib.hid hx2
      clear hnext hL hL' hlen hx1 hx2 hC
      have hsz := HUP.out.size
      go_wp2_with fail
      go_region_law (refine step_append_lies _ rfl (.tmp 14) (.tmp 26) 60 rfl w.heap.size 5 i0 (.int .u8 0) 1 1 Try.underlying60 HI.out HZ0.out HZ1.out HZ2.out rfl (by decide) u7 L.length (byteL L) (by simp [Act.eval]) (World.ownsRow.alloc (HB.out.up (Up.drew _)) _) ⟨wr.heap.size, 0, none⟩ 1 1 [.int .u8 (bits .xor .u8 (bits .xor .u8 (s[k].toNat : Int) (t[k].toNat : Int)) (u[k].toNat : Int))] (by simp [Act.eval]) rfl (cell_one_new _ _ _) (one_memB _ rfl) (by omega) (by have := HLEN.out; unfold maxLen; omega) (by have := HLEN.out; omega) (by simp; omega) _ rfl ?_; intro g cap w1 hown hgrow _ _; have HOWN := Lib.hid hown; have HGROW := Lib.hid hgrow; clear hown hgrow)
      all_goals
        have hB : Bytes w1 w.heap.size (.slice (some ⟨g, 0, none⟩) (L.length + 1) cap) L' := by
          have := HOWN.out
          rw [HX.out, ← byteL_snoc] at this
          unfold Bytes
          rw [HN.out, List.length_append]
          exact this
        have hUp : Up w w1 := grown_upB ((HUP.out.trans (Up.drew _)).trans (Up.alloc _ _)) (World.ownsRow.alloc (HB.out.up (Up.drew _)) _) HGROW.out
        have HBB := Lib.hid hB
        have HUU := Lib.hid hUp
        clear hB hUp
        go_wp2_with fail
        go_roundw
        case rel => exact ⟨k + 1, by omega, by go_num, by rw [HL'.out]; exact HBB.out, HUU.out⟩
        case measure => simp only [intOf]; omega
    · obtain rfl : k = s.size := by omega
      have e1 : s.data.toList.take s.size = s.data.toList := List.take_of_length_le (by rw [ba_length]; omega)
      have e2 : t.data.toList.take s.size = t.data.toList := List.take_of_length_le (by rw [ba_length, HT.out]; omega)
      have e3 : u.data.toList.take s.size = u.data.toList := List.take_of_length_le (by rw [ba_length, HU.out]; omega)
      have hb := HB.out
      rw [e1, e2, e3] at hb
      have hconv := hb.conv
      clear e1 e2 e3 hb
      rw [HR.out] at hconv
      go_wp2_with fail
      go_ret
      exact ⟨rfl, HUP.out⟩

/-! ytidofplebkbbmaa# PrintLinear -/

theorem extract_list (s : ByteArray) (n : Nat) : (s.extract 0 n).data.toList = s.data.toList.take n := by
  rw [ByteArray.data_extract, Array.toList_extract, List.extract_eq_take_drop, List.drop_zero, Nat.sub_zero]

theorem extract_size (s : ByteArray) (n : Nat) (h : n ≤ s.size) : (s.extract 0 n).size = n := by
  rw [ByteArray.size_extract]; omega

end Go.Proofs.Ytidofplebkbbmaa
