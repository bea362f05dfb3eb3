/-
  The texts FrameM, Frame1, Frame3, GoodWf, one behind the other; each says below what it holds and on what conditions.
-/
import Derived.Test.YtbeigaanlhaolaaGreatDoorJB23
import Derived.Test.YtbeigaanlhaolaaGreatDoorJB01
import Derived.Test.YtbeigaanlhaolaaGreatDoorJB07
import Derived.Deep.RegionHeld3
import Derived.BigRegion
import Derived.Test.YtbeigaanlhaolaaGreatDoorJB12

/-
  Plain mathematics of frames: numbers as bytes, the most significant first, and back; a frame, and what is read off a text. No condition but those that each says.
-/
namespace Go.Proofs.YtbeigaanlhaolaaGreatDoor

/-- n in k bytes, the most significant first -/
def nb (n : Nat) : Nat → List UInt8
  | 0 => []
  | k + 1 => nb (n / 256) k ++ [UInt8.ofNat n]

theorem nb_length (k : Nat) : ∀ n, (nb n k).length = k := by
  induction k with
  | zero => intro n; rfl
  | succ k ih => intro n; rw [nb, List.length_append, ih]; rfl

/-- the number whose bytes are l -/
def nv (l : List UInt8) : Nat := l.foldl (fun a c => a * 256 + c.toNat) 0

theorem nv_nil : nv [] = 0 := rfl
theorem nv_snoc (l : List UInt8) (c : UInt8) : nv (l ++ [c]) = nv l * 256 + c.toNat := by
  unfold nv
  rw [List.foldl_append]
  rfl

theorem nv_nb (k : Nat) : ∀ n, n < 256 ^ k → nv (nb n k) = n := by
  induction k with
  | zero => intro n h; simp at h; subst h; rfl
  | succ k ih =>
    intro n h
    rw [nb, nv_snoc, ih _ (by rw [Nat.pow_succ] at h; omega)]
    have : (UInt8.ofNat n).toNat = n % 256 := UInt8.toNat_ofNat'
    omega

theorem nv_lt (l : List UInt8) : nv l < 256 ^ l.length := by
  induction l using snoc_ind with
  | h0 => decide
  | hs l c ih =>
    rw [nv_snoc, List.length_append, List.length_singleton, Nat.pow_succ]
    have : c.toNat < 256 := c.toNat_lt
    omega

theorem nb_nv (l : List UInt8) : nb (nv l) l.length = l := by
  induction l using snoc_ind with
  | h0 => rfl
  | hs l c ih =>
    rw [nv_snoc, List.length_append, List.length_singleton, nb]
    have h : c.toNat < 256 := c.toNat_lt
    have h1 : (nv l * 256 + c.toNat) / 256 = nv l := by omega
    have h2 : UInt8.ofNat (nv l * 256 + c.toNat) = c := by
      apply UInt8.toNat_inj.1
      rw [UInt8.toNat_ofNat']
      omega
    rw [h1, h2, ih]

/-- the bytes of a frame ahead of its print -/
def hb (K : Nat) (b : List UInt8) : List UInt8 := nb K 1 ++ (nb b.length 2 ++ b)

/-- a frame -/
def frm (K : Nat) (b : List UInt8) : List UInt8 := hb K b ++ nb (fp 1073741907 (hb K b)) 4

theorem hb_length (K : Nat) (b : List UInt8) : (hb K b).length = b.length + 3 := by
  unfold hb
  rw [List.length_append, List.length_append, nb_length, nb_length]
  omega

theorem frm_length (K : Nat) (b : List UInt8) : (frm K b).length = b.length + 7 := by
  unfold frm
  rw [List.length_append, hb_length, nb_length]

/-- what Put answers: the bytes and the error -/
def putV (k : Int) (b : List UInt8) : List UInt8 × Nat :=
  if k < 1 ∨ 255 < k then ([], 1) else if 700 < b.length then ([], 2) else (frm k.toNat b, 0)

/-- how long the body is, as the text says -/
def bl (s : List UInt8) : Nat := nv ((s.drop 1).take 2)

/-- what Get answers: kind and body, how many bytes, the error -/
def getV (s : List UInt8) : (Nat × List UInt8) × Nat × Nat :=
  if s.length < 3 then ((0, []), 0, 7)
  else if nv (s.take 1) = 0 ∨ 700 < bl s then ((0, []), 0, 3)
  else if s.length < bl s + 7 then ((0, []), 0, 7)
  else if nv ((s.drop (3 + bl s)).take 4) ≠ fp 1073741907 (s.take (3 + bl s)) then ((0, []), 0, 6)
  else ((nv (s.take 1), (s.drop 3).take (bl s)), bl s + 7, 0)

theorem fp30 (l : List UInt8) : fp 1073741907 l < 1073741824 := fp_le _ (by omega) (by omega) l

theorem bl_lt (s : List UInt8) : bl s < 65536 := by
  have := nv_lt ((s.drop 1).take 2)
  have h : ((s.drop 1).take 2).length ≤ 2 := by rw [List.length_take]; omega
  have h2 : 256 ^ ((s.drop 1).take 2).length ≤ 256 ^ 2 := Nat.pow_le_pow_right (by omega) h
  exact Nat.lt_of_lt_of_le this h2

theorem kind_lt (s : List UInt8) : nv (s.take 1) < 256 := by
  have := nv_lt (s.take 1)
  have h : (s.take 1).length ≤ 1 := by rw [List.length_take]; omega
  have h2 : 256 ^ (s.take 1).length ≤ 256 ^ 1 := Nat.pow_le_pow_right (by omega) h
  exact Nat.lt_of_lt_of_le this h2

/-- the head and the body of a text that is long enough -/
theorem hb_of (s : List UInt8) (h : 3 + bl s ≤ s.length) : hb (nv (s.take 1)) ((s.drop 3).take (bl s)) = s.take (3 + bl s) := by
  have h1 : nb (nv (s.take 1)) 1 = s.take 1 := by
    have := nb_nv (s.take 1)
    rwa [show (s.take 1).length = 1 by rw [List.length_take]; omega] at this
  have h2 : nb (bl s) 2 = (s.drop 1).take 2 := by
    have := nb_nv ((s.drop 1).take 2)
    rwa [show ((s.drop 1).take 2).length = 2 by rw [List.length_take, List.length_drop]; omega] at this
  have h3 : ((s.drop 3).take (bl s)).length = bl s := by rw [List.length_take, List.length_drop]; omega
  unfold hb
  rw [h3, h1, h2, show 3 + bl s = 1 + (2 + bl s) by omega, List.take_add, List.take_add, List.drop_drop]

/-- the whole frame is there just if its last four bytes are the print -/
theorem frm_of (s : List UInt8) (h : 7 + bl s ≤ s.length) : frm (nv (s.take 1)) ((s.drop 3).take (bl s)) = s.take (bl s + 7) ↔ nv ((s.drop (3 + bl s)).take 4) = fp 1073741907 (s.take (3 + bl s)) := by
  have hl : ((s.drop (3 + bl s)).take 4).length = 4 := by rw [List.length_take, List.length_drop]; omega
  have hs : s.take (bl s + 7) = s.take (3 + bl s) ++ (s.drop (3 + bl s)).take 4 := by
    rw [show bl s + 7 = (3 + bl s) + 4 by omega, List.take_add]
  unfold frm
  rw [hb_of s (by omega), hs, List.append_cancel_left_eq]
  constructor
  · intro e
    rw [← e]
    exact nv_nb 4 _ (Nat.lt_of_lt_of_le (fp30 _) (by decide))
  · intro e
    have := nb_nv ((s.drop (3 + bl s)).take 4)
    rw [hl, e] at this
    exact this

/-- the head of a frame, whatever stands behind it -/
theorem frm_head (K : Nat) (b more : List UInt8) (hK : K < 256) (hb' : b.length < 65536) : nv ((frm K b ++ more).take 1) = K ∧ bl (frm K b ++ more) = b.length ∧ ((frm K b ++ more).drop 3).take b.length = b ∧
    (frm K b ++ more).take (3 + b.length) = hb K b ∧ ((frm K b ++ more).drop (3 + b.length)).take 4 = nb (fp 1073741907 (hb K b)) 4 := by
  have e1 : frm K b ++ more = nb K 1 ++ (nb b.length 2 ++ (b ++ (nb (fp 1073741907 (hb K b)) 4 ++ more))) := by
    unfold frm
    conv => lhs; lhs; lhs; unfold hb
    simp only [List.append_assoc]
  have e2 : frm K b ++ more = hb K b ++ (nb (fp 1073741907 (hb K b)) 4 ++ more) := by unfold frm; rw [List.append_assoc]
  have t1 : (frm K b ++ more).take 1 = nb K 1 := by rw [e1]; exact List.take_left' (nb_length 1 K)
  have d1 : (frm K b ++ more).drop 1 = nb b.length 2 ++ (b ++ (nb (fp 1073741907 (hb K b)) 4 ++ more)) := by rw [e1]; exact List.drop_left' (nb_length 1 K)
  have t2 : ((frm K b ++ more).drop 1).take 2 = nb b.length 2 := by rw [d1]; exact List.take_left' (nb_length 2 _)
  have d3 : (frm K b ++ more).drop 3 = b ++ (nb (fp 1073741907 (hb K b)) 4 ++ more) := by
    rw [show 3 = 1 + 2 from rfl, ← List.drop_drop, d1]; exact List.drop_left' (nb_length 2 _)
  refine ⟨by rw [t1]; exact nv_nb 1 K (by omega), by unfold bl; rw [t2]; exact nv_nb 2 _ (by omega), by rw [d3]; exact List.take_left' rfl, ?_, ?_⟩
  · rw [e2]; exact List.take_left' (by rw [hb_length]; omega)
  · rw [e2, List.drop_left' (by rw [hb_length]; omega)]; exact List.take_left' (nb_length 4 _)

theorem get_put (K : Nat) (b more : List UInt8) (h0 : 1 ≤ K) (h1 : K ≤ 255) (h2 : b.length ≤ 700) : getV (frm K b ++ more) = ((K, b), b.length + 7, 0) := by
  obtain ⟨a1, a2, a3, a4, a5⟩ := frm_head K b more (by omega) (by omega)
  have hl : (frm K b ++ more).length = b.length + 7 + more.length := by rw [List.length_append, frm_length]
  unfold getV
  rw [a1, a2, a3, a4, a5, nv_nb 4 _ (Nat.lt_of_lt_of_le (fp30 _) (by decide)), hl, if_neg (by omega), if_neg (by omega), if_neg (by omega), if_neg (by simp)]

theorem get_cut (K : Nat) (b : List UInt8) (k : Nat) (h0 : 1 ≤ K) (h1 : K ≤ 255) (h2 : b.length ≤ 700) (hk : k < b.length + 7) : getV ((frm K b).take k) = ((0, []), 0, 7) := by
  obtain ⟨a1, a2, _⟩ := frm_head K b [] (by omega) (by omega)
  rw [List.append_nil] at a1 a2
  have hl : ((frm K b).take k).length = k := by rw [List.length_take, frm_length]; omega
  unfold getV
  rw [hl]
  by_cases h3 : k < 3
  · rw [if_pos h3]
  · have b1 : ((frm K b).take k).take 1 = (frm K b).take 1 := by rw [List.take_take]; congr 1; omega
    have b2 : bl ((frm K b).take k) = bl (frm K b) := by
      unfold bl
      rw [List.drop_take, List.take_take]
      congr 2
      omega
    rw [if_neg h3, b1, b2, a1, a2, if_neg (by omega), if_pos (by omega)]

theorem get_ok (s : List UInt8) (h : (getV s).2.2 = 0) : ∃ K b, 1 ≤ K ∧ K ≤ 255 ∧ b.length ≤ 700 ∧ b.length + 7 ≤ s.length ∧ getV s = ((K, b), b.length + 7, 0) ∧ s.take (b.length + 7) = frm K b := by
  by_cases h1 : s.length < 3
  · unfold getV at h; rw [if_pos h1] at h; simp at h
  by_cases h2 : nv (s.take 1) = 0 ∨ 700 < bl s
  · unfold getV at h; rw [if_neg h1, if_pos h2] at h; simp at h
  by_cases h3 : s.length < bl s + 7
  · unfold getV at h; rw [if_neg h1, if_neg h2, if_pos h3] at h; simp at h
  by_cases h4 : nv ((s.drop (3 + bl s)).take 4) ≠ fp 1073741907 (s.take (3 + bl s))
  · unfold getV at h; rw [if_neg h1, if_neg h2, if_neg h3, if_pos h4] at h; simp at h
  have hlen : ((s.drop 3).take (bl s)).length = bl s := by rw [List.length_take, List.length_drop]; omega
  have hk := kind_lt s
  refine ⟨nv (s.take 1), (s.drop 3).take (bl s), by omega, by omega, by omega, by omega, ?_, ?_⟩
  · rw [hlen]; unfold getV; rw [if_neg h1, if_neg h2, if_neg h3, if_neg h4]
  · rw [hlen]; exact ((frm_of s (by omega)).2 (by simpa using h4)).symm

end Go.Proofs.YtbeigaanlhaolaaGreatDoor

/-
  What frame's value, number and fingerprint return. Conditions: at most four bytes (value, number); a text of at most 1000 bytes (fingerprint).
-/
namespace Go.Proofs.YtbeigaanlhaolaaGreatDoor
open Go.RowKit
open Go.Proofs

theorem or_byte (a c : Nat) (ha : a < 4294967296) (hc : c < 256) : bits .or .i64 ((a * 256 : Nat) : Int) (c : Int) = ((a * 256 + c : Nat) : Int) := by
  have e := Nat.shiftLeft_add_eq_or_of_lt (show c < 2 ^ 8 by omega) a
  rw [Nat.shiftLeft_eq, show (2 : Nat) ^ 8 = 256 from rfl] at e
  show IntKind.i64.wrap ((BitVec.ofInt 64 ((a * 256 : Nat) : Int) ||| BitVec.ofInt 64 (c : Int)).toNat : Int) = _
  rw [BitVec.toNat_or, ofInt64 _ (by omega), ofInt64 _ (by omega), ← e]
  exact wrap_i64_nat _ (by omega)

def ValueRel (l : List UInt8) (t3 t7 : Value) : Prop :=
  ∃ k : Nat, k ≤ l.length ∧ t7 = .int .i64 (k : Int) ∧ t3 = .int .i64 ((nv (l.take k) : Nat) : Int)

theorem nv_small (l : List UInt8) (k : Nat) (h : l.length ≤ 4) : nv (l.take k) < 4294967296 := by
  have := nv_lt (l.take k)
  have h2 : (l.take k).length ≤ 4 := by rw [List.length_take]; omega
  exact Nat.lt_of_lt_of_le this (Nat.pow_le_pow_right (by omega) h2)

theorem nv_take (l : List UInt8) (k : Nat) (h : k < l.length) : nv (l.take (k + 1)) = nv (l.take k) * 256 + l[k].toNat := by
  rw [List.take_succ_eq_append_getElem h, nv_snoc]

set_option maxRecDepth 100000 in
set_option maxHeartbeats 400000 in
theorem valueF_any (l : List UInt8) (w : World) (hl : l.length ≤ 4) :
    Calls Tryz.prog 34 #[.string (bs l)] w fun e w' => e = .returned (.int .i64 ((nv l : Nat) : Int)) ∧ w = w' := by
  have hsz := bs_size l
  have HF := Lib.hid (show nv (l.take l.length) = nv l by rw [List.take_of_length_le (Nat.le_refl _)])
  obtain ⟨n, hn⟩ : ∃ n, l.length = n := ⟨_, rfl⟩
  have HN := Lib.hid hn
  rw [hn] at hsz
  have hn4 : n ≤ 4 := by omega
  clear hn hl
  go_enter Tryz.func34, Tryz.ntmps34
  go_wp2_with fail
  go_loop [3, 7] (fun t3 t7 => ValueRel l t3 t7) (fun _ t7 => n - (intOf t7).toNat)
  case atStart => exact ⟨0, by omega, rfl, rfl⟩
  case round =>
    obtain ⟨k, hk, rfl, rfl⟩ := hrel
    rw [HN.out] at hk
    by_cases hlt : k < n
    · have hk' : k < l.length := by rw [HN.out]; exact hlt
      have hi := index_bs l k hk'
      have hs := nv_small l k (by rw [HN.out]; exact hn4)
      have ho := or_byte (nv (l.take k)) l[k].toNat hs l[k].toNat_lt
      rw [← nv_take l k hk'] at ho
      have hc : l[k].toNat < 256 := l[k].toNat_lt
      obtain ⟨c, hcc⟩ : ∃ c, l[k].toNat = c := ⟨_, rfl⟩
      obtain ⟨A, hA⟩ : ∃ A, nv (l.take k) = A := ⟨_, rfl⟩
      obtain ⟨B, hB⟩ : ∃ B, nv (l.take (k + 1)) = B := ⟨_, rfl⟩
      rw [hcc] at hi ho hc
      rw [hA] at hs ho ⊢
      rw [hB] at ho
      have HB := Lib.hid hB
      have HO := Lib.hid ho
      clear hcc hA hB ho
      go_wp2_with fail
      refine ⟨⟨k + 1, by rw [HN.out]; omega, by go_num, ?_⟩, by simp only [intOf]; omega⟩
      rw [HB.out, ← HO.out]
      congr 2
    · obtain rfl : k = n := by omega
      have hfin := HF.out
      rw [HN.out] at hfin
      rw [hfin]
      clear hfin
      go_wp2_with fail
      go_ret
      exact ⟨rfl, rfl⟩

theorem nb_cons (n : Nat) (j : Nat) : nb n (j + 1) = UInt8.ofNat (n / 256 ^ j) :: nb n j := by
  induction j generalizing n with
  | zero => simp [nb]
  | succ j ih =>
    rw [nb, ih, Nat.div_div_eq_div_mul, show 256 * 256 ^ j = 256 ^ (j + 1) by rw [Nat.pow_succ, Nat.mul_comm]]
    rfl

theorem set_rep (m : Nat) (z c : UInt8) (l : List UInt8) : (List.replicate (m + 1) z ++ l).set m c = List.replicate m z ++ (c :: l) := by
  rw [show m + 1 = m + 1 from rfl, List.replicate_succ', List.append_assoc, List.set_append_right _ _ (by simp)]
  simp

theorem byteL_set (l : List UInt8) (i : Nat) (c : UInt8) : byteL (l.set i c) = (byteL l).set i (.int .u8 (c.toNat : Int)) := by
  unfold byteL
  rw [List.map_set]

theorem Bytes.put {w : World} {base g c : Nat} {l : List UInt8} (h : Bytes w base (.slice (some ⟨g, 0, none⟩) l.length c) l) (j : Nat) (x : UInt8) :
    Bytes (w.setCell ⟨g, j, none⟩ (.int .u8 (x.toNat : Int))) base (.slice (some ⟨g, 0, none⟩) l.length c) (l.set j x) := by
  have := (World.ownsRow.stored h j (.int .u8 (x.toNat : Int))).1
  unfold Bytes
  rw [byteL_set, List.length_set]
  exact this

theorem u8_mod (n : Nat) : (n : Int) % 256 = ((UInt8.ofNat n).toNat : Int) := by
  rw [UInt8.toNat_ofNat']
  omega

def NumRel (n k : Nat) (w : World) (t0 t6 : Value) (wr : World) : Prop :=
  ∃ j m : Nat, j + m = k ∧ t6 = .int .i64 ((m : Int) - 1) ∧ t0 = .int .i64 ((n / 256 ^ j : Nat) : Int) ∧ Bytes wr w.heap.size (.slice (some ⟨w.heap.size, 0, none⟩) k k) (List.replicate m 0 ++ nb n j) ∧ Up w wr

set_option maxRecDepth 100000 in
set_option maxHeartbeats 400000 in
theorem number_any (n k : Nat) (w : World) (_hn : n < 4294967296) (hk : k ≤ 4) :
    Calls Tryz.prog 27 #[.int .i64 (n : Int), .int .i64 (k : Int)] w fun e w' => e = .returned (.string (bs (nb n k))) ∧ Up w w' := by
  obtain ⟨i0, hi, hz0, hz1, hz2⟩ := info_parts byteInfo
  have HI := Lib.hid hi
  have HZ0 := Lib.hid hz0
  have HZ1 := Lib.hid hz1
  have HZ2 := Lib.hid hz2
  clear hi hz0 hz1 hz2
  go_enter Tryz.func27, Tryz.ntmps27
  go_wp2_with (at_make; refine wpList_make_full _ rfl _ _ 43 rfl w.heap.size 5 i0 (.int .u8 0) 1 Tryz.underlying43 HI.out HZ0.out HZ1.out .i64 .i64 _ _ k rfl rfl rfl rfl (by rw [HZ2.out]; omega) (by unfold maxLen; omega) (Nat.le_refl _) ?_)
  intro w1 hown hgrow
  have hb0 : Bytes w1 w.heap.size (.slice (some ⟨w.heap.size, 0, none⟩) k k) (List.replicate k 0 ++ nb n 0) := by
    unfold Bytes
    rw [show List.replicate k 0 ++ nb n 0 = List.replicate k (0 : UInt8) from List.append_nil _, List.length_replicate]
    have e : byteL (List.replicate k (0 : UInt8)) = (madeCells #[Value.int .u8 0] k).toList := by
      exact (by unfold byteL; rw [List.map_replicate]; rfl : byteL (List.replicate k (0 : UInt8)) = List.replicate k (.int .u8 0)).trans (toList_madeCells_one (.int .u8 0) k).symm
    rw [e]
    exact hown
  have hu0 : Up w w1 := Below.grown (Up.refl w) hgrow (Nat.le_refl _) (fun k hk => by cases hk)
  have HB0 := Lib.hid hb0
  have HU0 := Lib.hid hu0
  clear hown hgrow hb0 hu0
  go_wp2_with fail
  go_loopw [0, 6] (fun t0 t6 wr => NumRel n k w t0 t6 wr) (fun _ t6 _ => (intOf t6 + 1).toNat)
  case atStart => exact ⟨0, k, by omega, by go_num, by simp, HB0.out, HU0.out⟩
  case round =>
    obtain ⟨j, m, hjm, rfl, rfl, hb, hu⟩ := hrel
    have HU := Lib.hid hu
    clear hu
    cases m with
    | zero =>
      obtain rfl : j = k := by omega
      have hconv := hb.conv
      rw [show List.replicate 0 (0 : UInt8) ++ nb n j = nb n j from List.nil_append _] at hconv
      rw [show (⟨(nb n j).toArray⟩ : ByteArray) = bs (nb n j) from rfl] at hconv
      have d1 : decide ((0 : Int) ≤ ((0 : Nat) : Int) - 1) = false := by decide
      clear hb
      go_wp2_with fail
      go_ret
      exact ⟨rfl, HU.out⟩
    | succ m =>
      have hlen : (List.replicate (m + 1) (0 : UInt8) ++ nb n j).length = k := by rw [List.length_append, List.length_replicate, nb_length]; omega
      have hq : n / 256 ^ j ≤ n := Nat.div_le_self _ _
      have hnx : n / 256 ^ (j + 1) = n / 256 ^ j / 256 := by rw [Nat.div_div_eq_div_mul, Nat.pow_succ]
      have hb' : Bytes wr w.heap.size (.slice (some ⟨w.heap.size, 0, none⟩) (List.replicate (m + 1) (0 : UInt8) ++ nb n j).length k) (List.replicate (m + 1) (0 : UInt8) ++ nb n j) := by rw [hlen]; exact hb
      have hput := hb'.put m (UInt8.ofNat (n / 256 ^ j))
      rw [set_rep, ← nb_cons, hlen, ← u8_mod] at hput
      obtain ⟨x0, hc⟩ : ∃ x0, wr.cell? ⟨w.heap.size, m, none⟩ = some x0 := ⟨_, (World.ownsRow.cellAt hb' m (by omega)).trans (byteL_get _ m (by omega))⟩
      have hfz := World.ownsRow.frozenAt hb' m
      have hup : Up w (wr.setCell ⟨w.heap.size, m, none⟩ (.int .u8 (((n / 256 ^ j : Nat) : Int) % 256))) := Below.setCell HU.out (Nat.le_refl _) _
      obtain ⟨A, hA⟩ : ∃ A, n / 256 ^ j = A := ⟨_, rfl⟩
      obtain ⟨D, hD⟩ : ∃ D, n / 256 ^ (j + 1) = D := ⟨_, rfl⟩
      rw [hA] at hput hup hq hnx ⊢
      rw [hD] at hnx
      have HD := Lib.hid hD
      have HP := Lib.hid hput
      have HUP := Lib.hid hup
      have e1 : ((m + 1 : Nat) : Int) - 1 = (m : Int) := by omega
      rw [e1]
      clear hb hb' hput hup hA hD hlen e1
      go_wp2_with fail
      exact ⟨⟨j + 1, m, by omega, rfl, by rw [HD.out]; congr 1; omega, HP.out, HUP.out⟩, by simp only [intOf]; omega⟩

theorem number1 (n : Nat) (w : World) (hn : n < 4294967296) : Calls Tryz.prog 27 #[.int .i64 (n : Int), .int .i64 1] w fun e w' => e = .returned (.string (bs (nb n 1))) ∧ Up w w' := number_any n 1 w hn (by omega)

theorem number2 (n : Nat) (w : World) (hn : n < 4294967296) : Calls Tryz.prog 27 #[.int .i64 (n : Int), .int .i64 2] w fun e w' => e = .returned (.string (bs (nb n 2))) ∧ Up w w' := number_any n 2 w hn (by omega)

theorem number4 (n : Nat) (w : World) (hn : n < 4294967296) : Calls Tryz.prog 27 #[.int .i64 (n : Int), .int .i64 4] w fun e w' => e = .returned (.string (bs (nb n 4))) ∧ Up w w' := number_any n 4 w hn (by omega)

theorem of_bs (M : Nat) (l : List UInt8) (w : World) (h0 : 2 ≤ M) (h1 : M ≤ 2147483647) (hs : l.length ≤ 600) :
    Calls Tryz.prog 54 #[.int .i64 (M : Int), .string (bs l)] w fun e w' => e = .returned (.tuple #[.int .i64 (fp M l : Nat), .int .i64 0]) ∧ Up w w' := by
  have := of_ok M (bs l) w h0 h1 (by rw [bs_size]; exact hs)
  rwa [bs_list] at this

def FpRel (l : List UInt8) (w : World) (t0 t3 : Value) (wr : World) : Prop :=
  ∃ p s : List UInt8, p ++ s = l ∧ t0 = .string (bs s) ∧ t3 = .int .i64 ((fp 1073741907 p : Nat) : Int) ∧ Up w wr

set_option maxRecDepth 100000 in
set_option maxHeartbeats 400000 in
theorem frmPrint_any (l : List UInt8) (w : World) (hl : l.length ≤ 1000) :
    Calls Tryz.prog 28 #[.string (bs l)] w fun e w' => e = .returned (.int .i64 ((fp 1073741907 l : Nat) : Int)) ∧ Up w w' := by
  have H1 := Lib.hid (fp_nil 1073741907 (by omega))
  have HLT : Hid (∀ p : List UInt8, fp 1073741907 p < 2 ^ Nat.log2 1073741907) := fun p => fp_lt 1073741907 (by omega) p
  go_enter Tryz.func28, Tryz.ntmps28
  go_wp2_with fail
  refine (of_bs 1073741907 [] _ (by omega) (by omega) (by simp)).mono ?_
  rintro e w1 ⟨rfl, u1⟩
  rw [H1.out]
  go_wp2_with fail
  go_loopw [0, 3] (fun t0 t3 wr => FpRel l w t0 t3 wr) (fun t0 _ _ => match t0 with | .string s => s.size | _ => 0)
  case atStart => exact ⟨[], l, rfl, rfl, by rw [H1.out]; rfl, u1⟩
  case round =>
    obtain ⟨p, s, hps, rfl, rfl, hu⟩ := hrel
    have HU := Lib.hid hu
    clear hu
    have hlen : p.length + s.length = l.length := by rw [← hps, List.length_append]
    have hsz := bs_size s
    by_cases h0 : s.length = 0
    · have : s = [] := List.eq_nil_of_length_eq_zero h0
      subst this
      rw [List.append_nil] at hps
      subst hps
      rw [show bs [] = ⟨#[]⟩ from rfl]
      clear hsz hlen h0
      go_wp2_with fail
      go_ret
      exact ⟨rfl, HU.out⟩
    · have hne := not_empty s (by omega)
      obtain ⟨n, hn⟩ : ∃ n, min s.length 600 = n := ⟨_, rfl⟩
      have hmin : ∀ (ts : Array TypeId) (t : TypeId) (W : World), (Builtin.min_ ts t #[.int .i64 (s.length : Int), .int .i64 600]).run Tryz.prog W = .ok (.int .i64 (n : Int)) W := by
        intro ts t W
        simp [Builtin.min_, Builtin.min2]
        omega
      have hto := to_bs s (n : Int) n rfl (by omega)
      have hfr := from_bs s (n : Int) n rfl (by omega)
      have hj := fp_join 1073741907 (by omega) p (s.take n)
      have htl : (s.take n).length = n := by rw [List.length_take]; omega
      rw [htl] at hj
      have hnx : (p ++ s.take n) ++ s.drop n = l := by rw [List.append_assoc, List.take_append_drop]; exact hps
      have hdl : (bs (s.drop n)).size < (bs s).size := by rw [bs_size, bs_size, List.length_drop]; omega
      have HNX := Lib.hid hnx
      have HJ := Lib.hid hj
      have HDL := Lib.hid hdl
      have HTL := Lib.hid htl
      obtain ⟨m, hm⟩ : ∃ m, s.length = m := ⟨_, rfl⟩
      rw [hm] at hsz hmin hn hlen h0
      have hn6 : n ≤ 600 := by omega
      have HA := Lib.hid (HLT.out p)
      have HB := Lib.hid (HLT.out (s.take n))
      obtain ⟨A, hA⟩ : ∃ A, fp 1073741907 p = A := ⟨_, rfl⟩
      obtain ⟨B, hB⟩ : ∃ B, fp 1073741907 (s.take n) = B := ⟨_, rfl⟩
      rw [hA] at HA HJ ⊢
      rw [hB] at HB HJ
      have HBB := Lib.hid hB
      clear hps hm hj hnx hdl htl hA hB
      go_wp2_with fail
      refine (of_bs 1073741907 (s.take n) _ (by omega) (by omega) (by rw [HTL.out]; exact hn6)).mono ?_
      rintro e w2 ⟨rfl, u2⟩
      rw [HBB.out]
      go_wp2_with fail
      refine (join_ok 1073741907 A B n _ (by omega) (by omega) HA.out HB.out hn6).mono ?_
      rintro e w3 ⟨rfl, u3⟩
      rw [← HJ.out]
      go_wp2_with fail
      exact ⟨⟨p ++ s.take n, s.drop n, HNX.out, rfl, rfl, (HU.out.trans u2).trans u3⟩, HDL.out⟩

end Go.Proofs.YtbeigaanlhaolaaGreatDoor

/-
  What frame's Get returns, at every text. Condition: at most 2^48 bytes.
-/
namespace Go.Proofs.YtbeigaanlhaolaaGreatDoor
open Go.RowKit
open Go.Proofs

/-- a frame as a value -/
def frmR (x : Nat × List UInt8) : Value := .agg #[.int .i64 (x.1 : Int), .string (bs x.2)]

/-- what Get answers, as the three results -/
def getR (s : List UInt8) : Value := .tuple #[frmR (getV s).1, .int .i64 (((getV s).2.1 : Nat) : Int), .int .i64 (((getV s).2.2 : Nat) : Int)]

/-- a block of two cells -/
def Box2 (W : World) (B : Nat) (t : TypeId) (x y : Value) : Prop := W.heap[B]? = some (.cells #[x, y] t (0, 0))

theorem Box2.cells {W : World} {B : Nat} {t : TypeId} {x y : Value} (h : Box2 W B t x y) : W.cell? ⟨B, 0, none⟩ = some x ∧ W.cell? ⟨B, 1, none⟩ = some y :=
  ⟨cell_of_row _ _ 0 _ _ _ h, cell_of_row _ _ 1 _ _ _ h⟩
theorem Box2.new (W : World) (t : TypeId) (x y : Value) : Box2 (W.alloc (.cells #[x, y] t)) W.heap.size t x y := heap_alloc_new W _
theorem Box2.below {W W' : World} {n B : Nat} {t : TypeId} {x y : Value} (h : Box2 W B t x y) (hb : Below n W W') (hB : B < n) : Box2 W' B t x y := (hb.block B hB).trans h
theorem Box2.set {W : World} {B : Nat} {t : TypeId} {x y : Value} (h : Box2 W B t x y) (x' y' : Value) : Box2 ((W.setCell ⟨B, 0, none⟩ x').setCell ⟨B, 1, none⟩ y') B t x' y' := by
  unfold Box2 at h ⊢
  simp [World.setCell, Array.getElem?_modify, h]

/-- the cells of a struct result, set -/
theorem set_box2 (w w1 : World) (t : TypeId) (x y x' y' : Value) (u : Up (w.alloc (.cells #[x, y] t)) w1) :
    (∃ w2, (w1.setCell ⟨w.heap.size, 0, none⟩ x').setCell ⟨w.heap.size, 1, none⟩ y' = w2 ∧ w2.cell? ⟨w.heap.size, 0, none⟩ = some x' ∧ w2.cell? ⟨w.heap.size, 1, none⟩ = some y' ∧ Up w w2) ∧
    (∀ k, w1.frozen? ⟨w.heap.size, k, none⟩ = false) ∧ w1.cell? ⟨w.heap.size, 0, none⟩ = some x ∧ w1.cell? ⟨w.heap.size, 1, none⟩ = some y := by
  have hbx : Box2 w1 w.heap.size t x y := Box2.below (Box2.new w _ _ _) u (by simp)
  have U1 := Up.after _ _ _ u
  have hb2 := hbx.set x' y'
  have hu2 : Up w ((w1.setCell ⟨w.heap.size, 0, none⟩ x').setCell ⟨w.heap.size, 1, none⟩ y') := (Below.setCell U1 (p := ⟨w.heap.size, 0, none⟩) (Nat.le_refl _) _).setCell (p := ⟨w.heap.size, 1, none⟩) (Nat.le_refl _) _
  obtain ⟨e0, e1⟩ := hb2.cells
  obtain ⟨c0, c1⟩ := hbx.cells
  exact ⟨⟨_, rfl, e0, e1, hu2⟩, fun k => by unfold Box2 at hbx; simp [World.frozen?, hbx], c0, c1⟩

set_option maxRecDepth 100000 in
set_option maxHeartbeats 1000000 in
theorem frmGet_any (s : List UInt8) (w : World) (hl : s.length ≤ 281474976710656) :
    Calls Tryz.prog 19 #[.string (bs s)] w fun e w' => e = .returned (getR s) ∧ Up w w' := by
  have hsz := bs_size s
  by_cases h1 : s.length < 3
  · have HV : Hid (getR s = .tuple #[.agg #[.int .i64 0, .string (bs [])], .int .i64 0, .int .i64 7]) := by
      show _ = _
      unfold getR getV
      rw [if_pos h1]
      rfl
    obtain ⟨n, hn⟩ : ∃ n, s.length = n := ⟨_, rfl⟩
    rw [hn] at hsz h1
    clear hn hl
    go_enter Tryz.func19, Tryz.ntmps19
    go_wp2_with fail
    exact bodyPost_ret (v := .tuple #[.agg #[.int .i64 0, .string ⟨#[]⟩], .int .i64 0, .int .i64 7]) (by simp [results, Tryz.results19, go_sem]) rfl ⟨by rw [HV.out]; rfl, Up.alloc _ _⟩
  have hto := to_bs s 1 1 rfl (by omega)
  have hsl := slice_bs s 1 3 1 3 rfl rfl (by omega) (by omega)
  rw [show 3 - 1 = 2 from rfl] at hsl
  have hk0 := kind_lt s
  have hb0 := bl_lt s
  obtain ⟨A, hA⟩ : ∃ A, s.take 1 = A := ⟨_, rfl⟩
  obtain ⟨B, hB⟩ : ∃ B, (s.drop 1).take 2 = B := ⟨_, rfl⟩
  have HAL : Hid (A.length ≤ 4) := by show A.length ≤ 4; rw [← hA, List.length_take]; omega
  have HBL : Hid (B.length ≤ 4) := by show B.length ≤ 4; rw [← hB, List.length_take]; omega
  have hbb : bl s = nv B := by unfold bl; rw [hB]
  rw [hA] at hto hk0
  rw [hB] at hsl
  by_cases h2 : nv A = 0 ∨ 700 < bl s
  · have HV : Hid (getR s = .tuple #[.agg #[.int .i64 0, .string (bs [])], .int .i64 0, .int .i64 3]) := by
      show _ = _
      unfold getR getV
      rw [if_neg h1, hA, if_pos h2]
      rfl
    rw [hbb] at h2
    obtain ⟨n, hn⟩ : ∃ n, s.length = n := ⟨_, rfl⟩
    rw [hn] at hsz h1
    obtain ⟨KA, hKA⟩ : ∃ K, nv A = K := ⟨_, rfl⟩
    obtain ⟨KB, hKB⟩ : ∃ K, nv B = K := ⟨_, rfl⟩
    rw [hKA, hKB] at h2
    have HKA := Lib.hid hKA
    have HKB := Lib.hid hKB
    have H2 := Lib.hid h2
    clear hn hl hA hB hbb hb0 hk0 hKA hKB h2
    go_enter Tryz.func19, Tryz.ntmps19
    go_wp2_with fail
    go_region_held3 (fun _ => True) (trivial) (first
      | (go_at_call 34; ((with_reducible refine (valueF_any A _ HAL.out).mono ?_); rintro e w4 ⟨rfl, rfl⟩; rw [HKA.out]))
      | (go_at_call 34; ((with_reducible refine (valueF_any B _ HBL.out).mono ?_); rintro e w5 ⟨rfl, rfl⟩; rw [HKB.out])))
    all_goals
      by_cases h3 : KA = 0
      · subst h3
        clear H2
        go_wp2_with fail
        exact bodyPost_ret (v := .tuple #[.agg #[.int .i64 0, .string ⟨#[]⟩], .int .i64 0, .int .i64 3]) (by simp [results, Tryz.results19, go_sem]) rfl ⟨by rw [HV.out]; rfl, (Up.alloc _ _).trans (Up.drew _)⟩
      · have d1 : ((KA : Int) == 0) = false := by simp; omega
        have d2 : 700 < KB := by rcases H2.out with h | h; exact absurd h h3; exact h
        clear H2 h3
        go_wp2_with fail
        exact bodyPost_ret (v := .tuple #[.agg #[.int .i64 0, .string ⟨#[]⟩], .int .i64 0, .int .i64 3]) (by simp [results, Tryz.results19, go_sem]) rfl ⟨by rw [HV.out]; rfl, (Up.alloc _ _).trans (Up.drew _)⟩
  have h3 : ¬ nv A = 0 := fun h => h2 (.inl h)
  have h4 : ¬ 700 < nv B := fun h => h2 (.inr (by rw [hbb]; exact h))
  by_cases h5 : s.length < bl s + 7
  · have HV : Hid (getR s = .tuple #[.agg #[.int .i64 0, .string (bs [])], .int .i64 0, .int .i64 7]) := by
      show _ = _
      unfold getR getV
      rw [if_neg h1, hA, if_neg h2, if_pos h5]
      rfl
    rw [hbb] at h5
    obtain ⟨n, hn⟩ : ∃ n, s.length = n := ⟨_, rfl⟩
    rw [hn] at hsz h1 h5
    obtain ⟨KA, hKA⟩ : ∃ K, nv A = K := ⟨_, rfl⟩
    obtain ⟨KB, hKB⟩ : ∃ K, nv B = K := ⟨_, rfl⟩
    rw [hKA] at h3
    rw [hKB] at h4 h5
    have d1 : ((KA : Int) == 0) = false := by simp; omega
    have HKA := Lib.hid hKA
    have HKB := Lib.hid hKB
    clear hn hl hA hB hbb hb0 hk0 hKA hKB h2 h3
    go_enter Tryz.func19, Tryz.ntmps19
    go_wp2_with fail
    go_region_held3 (fun _ => True) (trivial) (first
      | (go_at_call 34; ((with_reducible refine (valueF_any A _ HAL.out).mono ?_); rintro e w4 ⟨rfl, rfl⟩; rw [HKA.out]))
      | (go_at_call 34; ((with_reducible refine (valueF_any B _ HBL.out).mono ?_); rintro e w5 ⟨rfl, rfl⟩; rw [HKB.out])))
    all_goals
      go_wp2_with fail
      exact bodyPost_ret (v := .tuple #[.agg #[.int .i64 0, .string ⟨#[]⟩], .int .i64 0, .int .i64 7]) (by simp [results, Tryz.results19, go_sem]) rfl ⟨by rw [HV.out]; rfl, (Up.alloc _ _).trans (Up.drew _)⟩
  have hL : s.length - 7 ≥ nv B := by rw [← hbb]; omega
  have h7 : nv B + 7 ≤ s.length := by rw [← hbb]; omega
  obtain ⟨n, hn⟩ : ∃ n, s.length = n := ⟨_, rfl⟩
  obtain ⟨KB, hKB⟩ : ∃ K, nv B = K := ⟨_, rfl⟩
  rw [hKB] at hbb h4 h7 hL
  have hsl2 := slice_bs s (3 + (KB : Int)) (3 + (KB : Int) + 4) (3 + KB) (3 + KB + 4) (by omega) (by omega) (by omega) (by omega)
  rw [show 3 + KB + 4 - (3 + KB) = 4 by omega] at hsl2
  have hto2 := to_bs s (3 + (KB : Int)) (3 + KB) (by omega) (by omega)
  have hsl3 := slice_bs s 3 (3 + (KB : Int)) 3 (3 + KB) rfl (by omega) (by omega) (by omega)
  rw [show 3 + KB - 3 = KB by omega] at hsl3
  obtain ⟨C, hC⟩ : ∃ C, (s.drop (3 + KB)).take 4 = C := ⟨_, rfl⟩
  obtain ⟨D, hD⟩ : ∃ D, s.take (3 + KB) = D := ⟨_, rfl⟩
  obtain ⟨E, hE⟩ : ∃ E, (s.drop 3).take KB = E := ⟨_, rfl⟩
  have HCL : Hid (C.length ≤ 4) := by show C.length ≤ 4; rw [← hC, List.length_take]; omega
  have HDL : Hid (D.length ≤ 1000) := by show D.length ≤ 1000; rw [← hD, List.length_take]; omega
  have HEL : Hid ((bs E).size ≤ 1000) := by show (bs E).size ≤ 1000; rw [bs_size, ← hE, List.length_take]; omega
  rw [hC] at hsl2
  rw [hD] at hto2
  rw [hE] at hsl3
  obtain ⟨KA, hKA⟩ : ∃ K, nv A = K := ⟨_, rfl⟩
  obtain ⟨V, hV⟩ : ∃ V, nv C = V := ⟨_, rfl⟩
  obtain ⟨F, hF⟩ : ∃ F, fp 1073741907 D = F := ⟨_, rfl⟩
  have hvl : V < 4294967296 := by rw [← hV]; have := nv_small C C.length HCL.out; rwa [List.take_of_length_le (Nat.le_refl _)] at this
  have hfl : F < 1073741824 := by rw [← hF]; exact fp30 D
  by_cases h6 : V = F
  · have HV : Hid (getR s = .tuple #[.agg #[.int .i64 (KA : Int), .string (bs E)], .int .i64 ((KB + 7 : Nat) : Int), .int .i64 0]) := by
      show _ = _
      unfold getR getV
      rw [if_neg h1, hA, if_neg h2, if_neg h5, hbb, hC, hD, hV, hF, if_neg (by simpa using h6), hE, hKA]
      rfl
    subst h6
    rw [hKA] at h3 hk0
    rw [hn] at hsz h1 h7
    have d1 : ((KA : Int) == 0) = false := by simp; omega
    have HKA := Lib.hid hKA
    have HKB := Lib.hid hKB
    have HVV := Lib.hid hV
    have HF := Lib.hid hF
    clear hn hA hB hbb hb0 hKA hKB h2 h3 hV hF hC hD hE hL h5 hl
    go_enter Tryz.func19, Tryz.ntmps19
    go_wp2_with fail
    go_region_held3 (fun _ => True) (trivial) (first
      | (go_at_call 34; ((with_reducible refine (valueF_any A _ HAL.out).mono ?_); rintro e w4 ⟨rfl, rfl⟩; rw [HKA.out]))
      | (go_at_call 34; ((with_reducible refine (valueF_any B _ HBL.out).mono ?_); rintro e w5 ⟨rfl, rfl⟩; rw [HKB.out])))
    all_goals
      go_wp2_with fail
      go_region_held3 (fun _ => True) (trivial) (first
        | (go_at_call 34; ((with_reducible refine (valueF_any C _ HCL.out).mono ?_); rintro e w4 ⟨rfl, rfl⟩; rw [HVV.out]))
        | (go_at_call 28; ((with_reducible refine (frmPrint_any D _ HDL.out).mono ?_); rintro e w6 ⟨rfl, u6⟩; rw [HF.out])))
      all_goals
        go_wp2_with fail
        refine (clone_str (bs E) _ HEL.out).mono ?_
        rintro e w7 ⟨rfl, u7⟩
        obtain ⟨⟨w2, hw2, e0, e1, hw⟩, hfz, c0, c1⟩ := set_box2 w w7 32 (.int .i64 0) (.string ⟨#[]⟩) (.int .i64 (KA : Int)) (.string (bs E)) ((((Up.drew _).trans (Up.drew _)).trans u6).trans u7)
        have HW := Lib.hid hw2
        clear hw2
        go_wp2_with fail
        rw [HW.out]
        exact bodyPost_ret (v := .tuple #[.agg #[.int .i64 (KA : Int), .string (bs E)], .int .i64 (3 + (KB : Int) + 4), .int .i64 0]) (by simp [results, Tryz.results19, go_sem, e0, e1]) rfl ⟨by rw [HV.out, show ((KB + 7 : Nat) : Int) = 3 + (KB : Int) + 4 by omega], hw⟩
  · have HV : Hid (getR s = .tuple #[.agg #[.int .i64 0, .string (bs [])], .int .i64 0, .int .i64 6]) := by
      show _ = _
      unfold getR getV
      rw [if_neg h1, hA, if_neg h2, if_neg h5, hbb, hC, hD, hV, hF, if_pos h6]
      rfl
    rw [hKA] at h3 hk0
    rw [hn] at hsz h1 h7
    have d1 : ((KA : Int) == 0) = false := by simp; omega
    have d2 : (V != F) = true := by simp; omega
    have d3 : (V == F) = false := by simp; omega
    have HKA := Lib.hid hKA
    have HKB := Lib.hid hKB
    have HVV := Lib.hid hV
    have HF := Lib.hid hF
    clear hn hA hB hbb hb0 hKA hKB h2 h3 hV hF hC hD hE hL h5 hl h6
    go_enter Tryz.func19, Tryz.ntmps19
    go_wp2_with fail
    go_region_held3 (fun _ => True) (trivial) (first
      | (go_at_call 34; ((with_reducible refine (valueF_any A _ HAL.out).mono ?_); rintro e w4 ⟨rfl, rfl⟩; rw [HKA.out]))
      | (go_at_call 34; ((with_reducible refine (valueF_any B _ HBL.out).mono ?_); rintro e w5 ⟨rfl, rfl⟩; rw [HKB.out])))
    all_goals
      go_wp2_with fail
      go_region_held3 (fun _ => True) (trivial) (first
        | (go_at_call 34; ((with_reducible refine (valueF_any C _ HCL.out).mono ?_); rintro e w4 ⟨rfl, rfl⟩; rw [HVV.out]))
        | (go_at_call 28; ((with_reducible refine (frmPrint_any D _ HDL.out).mono ?_); rintro e w6 ⟨rfl, u6⟩; rw [HF.out])))
      all_goals
        obtain ⟨⟨w2, hw2, e0, e1, hw⟩, hfz, c0, c1⟩ := set_box2 w w6 32 (.int .i64 0) (.string ⟨#[]⟩) (.int .i64 0) (.string ⟨#[]⟩) (((Up.drew _).trans (Up.drew _)).trans u6)
        have HW := Lib.hid hw2
        clear hw2
        go_wp2_with fail
        rw [HW.out]
        exact bodyPost_ret (v := .tuple #[.agg #[.int .i64 0, .string ⟨#[]⟩], .int .i64 0, .int .i64 6]) (by simp [results, Tryz.results19, go_sem, e0, e1]) rfl ⟨by rw [HV.out]; rfl, hw⟩

end Go.Proofs.YtbeigaanlhaolaaGreatDoor

/-
  Valid states fit: what is in one can stand in a map's key. Conditions: as each says.
-/
namespace Go.Proofs.YtbeigaanlhaolaaGreatDoor
open Go.RowKit
open Go.Proofs
open WoolBag
open WoolVol

theorem wf_of {x : Int} (h1 : 0 ≤ x) (h2 : x ≤ 1073741824) : (Lit.int .i64 x).wf = true := by
  simp only [Lit.wf, Bool.and_eq_true, decide_eq_true_eq]
  exact ⟨by show (-9223372036854775808 : Int) ≤ _; omega, by show _ ≤ (9223372036854775807 : Int); omega⟩

theorem good_wf {st : Sta} (g : WoolVol.Good FP st) : WfS st := by
  intro v hv
  obtain ⟨hn, _, hb⟩ := g.vol v hv
  refine ⟨fun i hi => ?_, ?_⟩
  · have he := hb i hi
    cases h1 : i.1 with
    | false =>
      rw [errB_hole he h1]
      exact ⟨wf_of (by simp [noId]) (by simp [noId]), wf_of (by simp [noId]) (by simp [noId])⟩
    | true =>
      obtain ⟨x, hx, rfl⟩ := errB_in he h1
      have hok := g.bag.ok x hx
      have hs : x.s = FP x.t := hok.2.1
      have hle := fp_le 65581 (by omega) (by omega) x.t
      have hn1 := hok.2.2.1
      have hn2 := hok.2.2.2.1
      refine ⟨?_, ?_⟩
      · show (Lit.int .i64 x.s).wf = true
        rw [hs]
        exact wf_of (by unfold FP; omega) (by unfold FP; omega)
      · show (Lit.int .i64 x.n).wf = true
        exact wf_of (by omega) (by omega)
  · unfold nameB at hn
    simp at hn
    omega

end Go.Proofs.YtbeigaanlhaolaaGreatDoor
