/-
  What the functions marked, chunk and Ends of package cut return, at every argument. Conditions: as each says.
-/
import Derived.Test.YtcbppfndlagodaaGreatJTopBackup30
import Derived.Test.YtcbppfndlagodaaGreatJTopBackup32
namespace Go.Proofs.YtcbppfndlagodaaGreat
open Go.RowKit
open Go.Proofs

theorem ext_wnd (s : ByteArray) (a b : Nat) : (s.extract a b).data.toList = wnd s.data.toList a (b - a) := by
  unfold wnd
  rw [ByteArray.data_extract, Array.toList_extract, List.extract_eq_take_drop]

theorem len_ba (a : ByteArray) : a.data.toList.length = a.size := by rw [Array.length_toList]; rfl

theorem marked_any (s : ByteArray) (mask : Nat) (w : World) (hs : s.size ≤ 600) (hm : mask ≤ 65535) :
    Calls Tryz.prog 66 #[.string s, .int .i64 (mask : Int)] w fun e w' => e = .returned (.bool (fp 65581 s.data.toList &&& mask == mask)) ∧ Up w w' := by
  have hl := fp_le 65581 (by omega) (by omega) s.data.toList
  have hand := i64_and_nat (fp 65581 s.data.toList) mask (by omega) (by omega)
  have hbool : (bits .and .i64 ((fp 65581 s.data.toList : Nat) : Int) (mask : Int) == (mask : Int)) = (fp 65581 s.data.toList &&& mask == mask) := by
    rw [hand, Bool.eq_iff_iff, beq_iff_eq, beq_iff_eq]; omega
  generalize (fp 65581 s.data.toList &&& mask == mask) = B at *
  have HB := Lib.hid hbool
  clear hand hbool
  go_enter Tryz.func66, Tryz.ntmps66
  go_wp2_with fail
  refine (of_ok 65581 _ _ (by omega) (by omega) hs).mono ?_
  rintro e w1 ⟨rfl, u1⟩
  have hb := HB.out
  generalize fp 65581 s.data.toList = P at *
  go_wp2_with fail
  go_ret
  exact ⟨rfl, u1⟩

/-- how it goes on -/
theorem scan_step (l : List UInt8) (least most mask n : Nat) (hl : least ≤ n) (hn : n < min l.length most) (hno : ∀ k, least ≤ k → k < n → mk l mask k = false) (hm : mk l mask n = true) : chunk l least most mask = n :=
  IsChunk.eq ⟨by omega, .inr ⟨hl, hm⟩, hno⟩

theorem scan_end (l : List UInt8) (least most mask n : Nat) (hn : min l.length most ≤ n) (hno : ∀ k, least ≤ k → k < n → mk l mask k = false) : chunk l least most mask = min l.length most :=
  IsChunk.eq ⟨Nat.le_refl _, .inl rfl, fun k k1 k2 => hno k k1 (by omega)⟩

def ChunkRel (l : List UInt8) (least mask E : Nat) (w : World) (n : Value) (wr : World) : Prop :=
  ∃ k : Nat, least ≤ k ∧ (k ≤ E ∨ k = least) ∧ n = .int .i64 k ∧ (∀ j, least ≤ j → j < k → mk l mask j = false) ∧ Up w wr

set_option maxRecDepth 100000 in
set_option maxHeartbeats 400000 in
theorem chunk_any (s : ByteArray) (least most mask : Nat) (w : World) (hs : s.size ≤ 600) (h2 : least ≤ 600) (hm : mask ≤ 65535) :
    Calls Tryz.prog 38 #[.string s, .int .i64 (least : Int), .int .i64 (most : Int), .int .i64 (mask : Int)] w fun e w' => e = .returned (.int .i64 (chunk s.data.toList least most mask : Nat)) ∧ Up w w' := by
  have hmin : ∀ (ts : Array TypeId) (t : TypeId) (W : World), (Builtin.min_ ts t #[.int .i64 (s.size : Int), .int .i64 (most : Int)]).run Tryz.prog W = .ok (.int .i64 ((min s.size most : Nat) : Int)) W := by
    intro ts t W
    simp [Builtin.min_, Builtin.min2]
    split <;> omega
  obtain ⟨E, hE⟩ : ∃ E, E = min s.size most := ⟨_, rfl⟩
  have hEs : E ≤ s.size := by omega
  have hmn : min s.data.toList.length most = E := by rw [len_ba]; exact hE.symm
  rw [← hE] at hmin
  have HMN := Lib.hid hmn
  clear hmn hE
  generalize hC : chunk s.data.toList least most mask = C
  have HC := Lib.hid hC
  clear hC
  go_enter Tryz.func38, Tryz.ntmps38
  go_wp2_with fail
  clear hmin
  go_loopw [10] (fun n wr => ChunkRel s.data.toList least mask E w n wr) (fun n _ => E - (intOf n).toNat)
  case atStart => exact ⟨least, Nat.le_refl _, .inr rfl, rfl, fun j j1 j2 => by omega, Up.refl w⟩
  case round =>
    obtain ⟨k, hk, hk2, rfl, hno, hu⟩ := hrel
    have HNO := Lib.hid hno
    have HU := Lib.hid hu
    clear hno hu
    have hk600 : k ≤ 600 := by omega
    clear hk2
    by_cases hlt : k < E
    · have hmax : ∀ (ts : Array TypeId) (t : TypeId) (W : World), (Builtin.max_ ts t #[.int .i64 0, .int .i64 ((k : Int) - 8)]).run Tryz.prog W = .ok (.int .i64 ((k - 8 : Nat) : Int)) W := by
        intro ts t W
        simp [Builtin.max_, Builtin.max2]
        split <;> omega
      have hws : (s.extract (k - 8) k).size ≤ 600 := by rw [ByteArray.size_extract]; omega
      have hwl : (fp 65581 (s.extract (k - 8) k).data.toList &&& mask == mask) = mk s.data.toList mask k := by rw [ext_wnd]; rfl
      have HWL := Lib.hid hwl
      clear hwl
      go_wp2_with fail
      refine (marked_any _ mask _ hws hm).mono ?_
      rintro e w1 ⟨rfl, u1⟩
      rw [HWL.out]
      by_cases hmk : mk s.data.toList mask k = true
      · have hst := scan_step s.data.toList least most mask k hk (by rw [HMN.out]; exact hlt) HNO.out hmk
        rw [HC.out] at hst
        subst hst
        rw [hmk]
        clear hmk hmax
        go_wp2_with fail
        go_ret
        exact ⟨rfl, HU.out.trans u1⟩
      · have hmk' : mk s.data.toList mask k = false := by simpa using hmk
        have hnext : ∀ j, least ≤ j → j < k + 1 → mk s.data.toList mask j = false := by
          intro j j1 j2
          by_cases e : j = k
          · subst e; exact hmk'
          · exact HNO.out j j1 (by omega)
        have HNEXT := Lib.hid hnext
        rw [hmk']
        clear hmk hmk' hnext hmax
        go_wp2_with fail
        go_roundw
        case rel => exact ⟨k + 1, by omega, .inl (by omega), by go_num, HNEXT.out, HU.out.trans u1⟩
        case measure => simp only [intOf]; omega
    · have hend := scan_end s.data.toList least most mask k (by rw [HMN.out]; omega) HNO.out
      rw [HC.out, HMN.out] at hend
      subst hend
      go_wp2_with fail
      go_ret
      exact ⟨rfl, HU.out⟩

/-! ytcbppfndlagodaagreat# Ends -/

def EndsRel (s : ByteArray) (least most mask : Nat) (w : World) (es b : Value) (wr : World) : Prop :=
  ∃ (B : Nat) (l : List Nat), B ≤ s.size ∧ b = .int .i64 B ∧ ends least most mask s.data.toList = l ++ (ends least most mask (s.data.toList.drop B)).map (B + ·) ∧ Ints wr w.heap.size es l ∧ Up w wr

def EndsPost (s : ByteArray) (least most mask : Nat) (w : World) (e : Ending) (w' : World) : Prop :=
  ∃ v : Value, e = .returned (.tuple #[v, .int .i64 0]) ∧ Ints w' w.heap.size v (ends least most mask s.data.toList) ∧ Up w w'

theorem drop_ext (s : ByteArray) (b : Nat) : (s.extract b s.size).data.toList = s.data.toList.drop b := by
  rw [ext_wnd]
  unfold wnd
  rw [List.take_of_length_le (by rw [List.length_drop, len_ba]; omega)]

set_option maxRecDepth 100000 in
set_option maxHeartbeats 400000 in
theorem ends_ok (s : ByteArray) (least most mask : Nat) (w : World) (hs : s.size ≤ 600) (h1 : 1 ≤ least) (h2 : least ≤ most) (h3 : most ≤ 600) (hm : mask ≤ 65535) :
    Calls Tryz.prog 16 #[.string s, .int .i64 (least : Int), .int .i64 (most : Int), .int .i64 (mask : Int)] w (EndsPost s least most mask w) := by
  obtain ⟨i0, hi, hz0, hz1, hz2⟩ := info_parts intInfo
  have HI := Lib.hid hi
  have HZ0 := Lib.hid hz0
  have HZ1 := Lib.hid hz1
  have HZ2 := Lib.hid hz2
  have d1 : decide ((least : Int) < 1) = false := by rw [decide_eq_false_iff_not]; omega
  have d2 : decide (most < least) = false := by rw [decide_eq_false_iff_not]; omega
  have d3 : decide (600 < (most : Int)) = false := by rw [decide_eq_false_iff_not]; omega
  have d4 : decide ((mask : Int) < 0) = false := by rw [decide_eq_false_iff_not]; omega
  have d5 : decide (65535 < (mask : Int)) = false := by rw [decide_eq_false_iff_not]; omega
  have d6 : decide (600 < (s.size : Int)) = false := by rw [decide_eq_false_iff_not]; omega
  clear hi hz0 hz1 hz2
  go_enter Tryz.func16, Tryz.ntmps16
  go_wp2_with fail
  go_loopw [10, 11] (fun es b wr => EndsRel s least most mask w es b wr) (fun _ b _ => s.size - (intOf b).toNat)
  case atStart => exact ⟨0, [], by omega, rfl, by simp, Ints.nil _ _, Up.refl w⟩
  case round =>
    obtain ⟨B, l, hB, rfl, heq, hints, hu⟩ := hrel
    have HEQ := Lib.hid heq
    have HINTS := Lib.hid hints
    have HU := Lib.hid hu
    clear heq hints hu
    by_cases hlt : B < s.size
    · have hne : s.data.toList.drop B ≠ [] := fun h => by have := List.drop_eq_nil_iff.1 h; rw [len_ba] at this; omega
      have hcons := ends_cons least most mask h1 h2 (s.data.toList.drop B) hne
      have hpos := chunk_pos (s.data.toList.drop B) least most mask h1 h2 hne
      have hle := chunk_le (s.data.toList.drop B) least most mask
      rw [List.length_drop, len_ba] at hle
      have hnext : ends least most mask s.data.toList = (l ++ [B + chunk (s.data.toList.drop B) least most mask]) ++ (ends least most mask (s.data.toList.drop (B + chunk (s.data.toList.drop B) least most mask))).map ((B + chunk (s.data.toList.drop B) least most mask) + ·) := by
        rw [HEQ.out, hcons, List.map_cons, List.append_assoc, List.map_map, List.drop_drop]
        congr 2
        congr 1
        funext x
        show B + (chunk (s.data.toList.drop B) least most mask + x) = B + chunk (s.data.toList.drop B) least most mask + x
        omega
      have hll : l.length ≤ 600 := by
        have := ends_length least most mask h1 h2 s.data.toList
        rw [HEQ.out, List.length_append, len_ba] at this
        omega
      have HNEXT := Lib.hid hnext
      have hext : chunk (s.extract B s.size).data.toList least most mask = chunk (s.data.toList.drop B) least most mask := by rw [drop_ext]
      have hes : (s.extract B s.size).size ≤ 600 := by rw [ByteArray.size_extract]; omega
      generalize chunk (s.data.toList.drop B) least most mask = c at *
      have HEXT := Lib.hid hext
      have hsz := HU.out.size
      clear hcons hnext hext hne
      go_wp2_with fail
      refine (chunk_any _ least most mask _ hes (by omega) hm).mono ?_
      rintro e w1 ⟨rfl, u1⟩
      rw [HEXT.out]
      have HI1 := Lib.hid (HINTS.out.up u1)
      have HU1 := Lib.hid (HU.out.trans u1)
      have hs1 := HU1.out.size
      clear u1
      go_wp2_with (at_builtin; refine wpList_append_own _ rfl _ _ 22 rfl w.heap.size 3 i0 (.int .i64 0) 1 8 Tryz.underlying22 HI.out HZ0.out HZ1.out HZ2.out rfl (by decide) _ _ _ rfl (World.ownsRow.alloc HI1.out _) ⟨w1.heap.size, 0, none⟩ 1 1 [.int .i64 ((B : Int) + (c : Int))] rfl rfl (cell_one_new _ _ _) (one_mem' _ rfl) (by unfold maxLen; omega) (by omega) (by simp; omega) ?_)
      intro v' w2 hown' hgrow _
      have hBB : Ints w2 w.heap.size v' (l ++ [B + c]) := by
        unfold Ints
        rw [intL_snoc, List.length_append, show ((B + c : Nat) : Int) = (B : Int) + (c : Int) by omega]
        exact hown'
      have hUp : Up w w2 := grown_up' (HU1.out.trans (Up.alloc _ _)) (World.ownsRow.alloc HI1.out _) hgrow
      have HBB := Lib.hid hBB
      have HUP := Lib.hid hUp
      clear hown' hgrow hBB hUp
      go_wp2_with fail
      go_roundw
      case rel => exact ⟨B + c, l ++ [B + c], by omega, by go_num, HNEXT.out, HBB.out, HUP.out⟩
      case measure => simp only [intOf]; omega
    · obtain rfl : B = s.size := by omega
      have he := HEQ.out
      rw [show s.data.toList.drop s.size = [] from List.drop_eq_nil_iff.2 (by rw [len_ba]; omega), ends_nil, List.map_nil, List.append_nil] at he
      have HE := Lib.hid he
      clear he
      go_wp2_with fail
      go_ret2
      exact ⟨_, rfl, by rw [HE.out]; exact HINTS.out, HU.out⟩

set_option maxRecDepth 100000 in
theorem ends_long (s : ByteArray) (a b c : Int) (w : World) (hs : 600 < s.size) :
    Calls Tryz.prog 16 #[.string s, .int .i64 a, .int .i64 b, .int .i64 c] w fun e w' => e = .returned (.tuple #[.slice none 0 0, .int .i64 2]) ∧ w = w' := by
  go_enter Tryz.func16, Tryz.ntmps16
  go_wp2_with fail
  go_ret2
  exact ⟨rfl, rfl⟩

theorem e_cases (a b c : Int) (h : ¬ (1 ≤ a ∧ a ≤ b ∧ b ≤ 600 ∧ 0 ≤ c ∧ c ≤ 65535)) :
    a < 1 ∨ (1 ≤ a ∧ b < a) ∨ (1 ≤ a ∧ a ≤ b ∧ 600 < b) ∨ (1 ≤ a ∧ a ≤ b ∧ b ≤ 600 ∧ c < 0) ∨ (1 ≤ a ∧ a ≤ b ∧ b ≤ 600 ∧ 0 ≤ c ∧ 65535 < c) := by omega

set_option maxRecDepth 100000 in
theorem ends_arg (s : ByteArray) (a b c : Int) (w : World) (hs : s.size ≤ 600) (h : ¬ (1 ≤ a ∧ a ≤ b ∧ b ≤ 600 ∧ 0 ≤ c ∧ c ≤ 65535)) :
    Calls Tryz.prog 16 #[.string s, .int .i64 a, .int .i64 b, .int .i64 c] w fun e w' => e = .returned (.tuple #[.slice none 0 0, .int .i64 1]) ∧ w = w' := by
  have hc := e_cases a b c h
  clear h
  rcases hc with c1 | ⟨c1, c2⟩ | ⟨c1, c2, c3⟩ | ⟨c1, c2, c3, c4⟩ | ⟨c1, c2, c3, c4, c5⟩
  all_goals
    go_enter Tryz.func16, Tryz.ntmps16
    go_wp2_with fail
    go_ret2
    exact ⟨rfl, rfl⟩

end Go.Proofs.YtcbppfndlagodaaGreat
