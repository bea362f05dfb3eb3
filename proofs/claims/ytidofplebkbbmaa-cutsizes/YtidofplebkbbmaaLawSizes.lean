/-
  The law CutSizes, walked: for every text and all numbers the Go text returns true; nothing that was there turns. Conditions: a text that came in has at most 2^47 - 4096 bytes.
-/
import Derived.Test.YtidofplebkbbmaaSplit
namespace Go.Proofs.Ytidofplebkbbmaa
open Go.RowKit
open Go.Proofs

theorem divs_of (n : Nat) : ∀ (l : List Nat) (last : Nat), l.Pairwise (· < ·) → (∀ e ∈ l, last < e) → ((l = [] ∧ last = n) ∨ ∃ pre, l = pre ++ [n]) → divs (last : Int) (l.map fun x : Nat => (x : Int)) (n : Int) = true
  | [], last, _, _, h => by
    rcases h with ⟨_, rfl⟩ | ⟨pre, h⟩
    · rw [List.map_nil, divs]; exact beq_self_eq_true _
    · have := congrArg List.length h; simp at this
  | a :: r, last, hp, hl, h => by
    rw [List.map_cons, divs, if_neg (by have := hl a (List.mem_cons_self ..); omega)]
    rw [List.pairwise_cons] at hp
    refine divs_of n r a hp.2 hp.1 ?_
    rcases h with ⟨h, _⟩ | ⟨pre, h⟩
    · cases h
    · cases pre with
      | nil =>
        rw [List.nil_append, List.cons.injEq] at h
        exact .inl ⟨h.2, h.1⟩
      | cons b pre =>
        rw [List.cons_append, List.cons.injEq] at h
        exact .inr ⟨pre, h.2⟩

theorem ends_divs (least most mask : Nat) (h1 : 1 ≤ least) (h2 : least ≤ most) (s : ByteArray) : divs 0 ((ends least most mask s.data.toList).map fun x : Nat => (x : Int)) (s.size : Int) = true := by
  obtain ⟨p1, p2⟩ := ends_sorted least most mask h1 h2 s.data.toList
  have := divs_of s.size (ends least most mask s.data.toList) 0 p1 (fun e he => (p2 e he).1) (by
    by_cases he : s.data.toList = []
    · left
      rw [he, ends_nil]
      refine ⟨rfl, ?_⟩
      rw [← len_ba, he]; rfl
    · right
      rw [← len_ba]
      exact ends_last least most mask h1 h2 _ he)
  exact this

/-- the pieces, one behind the other, are the text -/
theorem pieces_flat (s : ByteArray) : ∀ (zs : List Int) (b : Nat), b ≤ s.size → divs (b : Int) zs (s.size : Int) = true → ((pieces s b zs).map (·.data.toList)).flatten = s.data.toList.drop b
  | [], b, _, h => by
    rw [divs, beq_iff_eq] at h
    have hb : b = s.size := by omega
    rw [pieces_nil, List.map_nil, List.flatten_nil, List.drop_of_length_le (by rw [len_ba]; omega)]
  | e :: r, b, hb, h => by
    rw [divs] at h
    by_cases he : e ≤ (b : Int)
    · rw [if_pos he] at h; cases h
    · rw [if_neg he] at h
      have hen : e ≤ (s.size : Int) := by
        apply Int.le_of_not_gt
        intro hgt
        rw [divs_gt _ _ _ hgt] at h
        cases h
      obtain ⟨E, rfl⟩ := Int.eq_ofNat_of_zero_le (show 0 ≤ e by omega)
      rw [pieces_cons, Int.toNat_natCast, List.map_cons, List.flatten_cons, pieces_flat s r E (by omega) h, ext_wnd]
      unfold wnd
      have : s.data.toList.drop E = (s.data.toList.drop b).drop (E - b) := by rw [List.drop_drop]; congr 1; omega
      rw [this, List.take_append_drop]

theorem join_flat (xs : List (List UInt8)) : Lib.join xs [] = xs.flatten := by
  cases xs with
  | nil => rfl
  | cons x r =>
    rw [Lib.join_cons, Lib.joinTail, List.flatten_cons]
    congr 1
    simp

theorem pieces_join (s : ByteArray) (zs : List Int) (h : divs 0 zs (s.size : Int) = true) : (⟨(Lib.join ((pieces s 0 zs).map (·.data.toList)) (⟨#[]⟩ : ByteArray).data.toList).toArray⟩ : ByteArray) = s := by
  rw [show (⟨#[]⟩ : ByteArray).data.toList = [] from rfl, join_flat, pieces_flat s zs 0 (by omega) h, List.drop_zero]

theorem pieces_get (s : ByteArray) : ∀ (zs : List Int) (b i : Nat) (h : i < zs.length) (h' : i < (pieces s b zs).length), (pieces s b zs)[i] = s.extract (if i = 0 then b else (zs.getD (i - 1) 0).toNat) zs[i].toNat
  | [], _, _, h, _ => by simp at h
  | e :: r, b, 0, _, _ => rfl
  | e :: r, b, i + 1, h, h' => by
    have h2 : i < r.length := by simpa using h
    have := pieces_get s r e.toNat i h2 (by rw [pieces_length]; exact h2)
    simp only [pieces_cons, List.getElem_cons_succ]
    rw [this, if_neg (show ¬ i + 1 = 0 by omega), Nat.add_sub_cancel]
    cases i with
    | zero => rfl
    | succ i => rw [if_neg (show ¬ i + 1 = 0 by omega), Nat.add_sub_cancel]; rfl

/-- how long each piece is -/
theorem piece_sizes (least most mask : Nat) (h1 : 1 ≤ least) (h2 : least ≤ most) (s : ByteArray) (i : Nat) (h : i < (ends least most mask s.data.toList).length)
    (h' : i < (pieces s 0 ((ends least most mask s.data.toList).map fun x : Nat => (x : Int))).length) :
    (pieces s 0 ((ends least most mask s.data.toList).map fun x : Nat => (x : Int)))[i].size ≤ most ∧
      (i + 1 < (ends least most mask s.data.toList).length → least ≤ (pieces s 0 ((ends least most mask s.data.toList).map fun x : Nat => (x : Int)))[i].size) ∧
      0 < (pieces s 0 ((ends least most mask s.data.toList).map fun x : Nat => (x : Int)))[i].size := by
  obtain ⟨z1, z2⟩ := ends_sizes least most mask h1 h2 s.data.toList i h
  obtain ⟨p1, p2⟩ := ends_sorted least most mask h1 h2 s.data.toList
  have hb := p2 _ (List.getElem_mem h)
  rw [len_ba] at hb
  have hgt : (if i = 0 then 0 else (ends least most mask s.data.toList).getD (i - 1) 0) < (ends least most mask s.data.toList)[i] := by
    by_cases h0 : i = 0
    · rw [if_pos h0]; exact hb.1
    · rw [if_neg h0]
      have := List.pairwise_iff_getElem.1 p1 (i - 1) i (by omega) h (by omega)
      rw [List.getD_eq_getElem?_getD, List.getElem?_eq_getElem (by omega)]
      exact this
  have hget := pieces_get s ((ends least most mask s.data.toList).map fun x : Nat => (x : Int)) 0 i (by rw [List.length_map]; exact h) h'
  have hprev : (if i = 0 then 0 else (((ends least most mask s.data.toList).map fun x : Nat => (x : Int)).getD (i - 1) 0).toNat) = (if i = 0 then 0 else (ends least most mask s.data.toList).getD (i - 1) 0) := by
    by_cases h0 : i = 0
    · rw [if_pos h0, if_pos h0]
    · rw [if_neg h0, if_neg h0, List.getD_eq_getElem?_getD, List.getD_eq_getElem?_getD, List.getElem?_map, List.getElem?_eq_getElem (by omega)]
      rfl
  rw [hget, hprev, List.getElem_map, Int.toNat_natCast, ByteArray.size_extract]
  generalize (if i = 0 then 0 else (ends least most mask s.data.toList).getD (i - 1) 0) = p at *
  generalize (ends least most mask s.data.toList)[i] = e at *
  refine ⟨by omega, fun hi => ?_, by omega⟩
  have := z2 hi
  omega

theorem endsSizes : ends 2 2 65535 (⟨#[97, 97, 97, 97, 97]⟩ : ByteArray).data.toList = [2, 4, 5] := by decide +kernel

/-- Join, of the pieces -/
theorem join_pieces (v : Value) (base : Nat) (s : ByteArray) (zs : List Int) (w : World) (hs : s.size ≤ 600) (hd : divs 0 zs (s.size : Int) = true) (h : Strs w base v (pieces s 0 zs)) :
    Calls Try.prog 40 #[v, .string ⟨#[]⟩] w fun e w' => e = .returned (.string s) ∧ Up w w' := by
  have hj := pieces_join s zs hd
  have hlz := divs_len _ _ _ hd
  have hpl := pieces_length s zs 0
  by_cases h0 : (pieces s 0 zs).length = 0
  · obtain ⟨o, c, rfl⟩ := h.shape
    rw [h0]
    have hnil : pieces s 0 zs = [] := List.eq_nil_of_length_eq_zero h0
    rw [hnil] at hj
    have hse : (⟨#[]⟩ : ByteArray) = s := hj
    refine (Try.strings_Join_none o c ⟨#[]⟩ w).mono fun e w' ⟨he, hw⟩ => ⟨?_, Up.of_eq hw.symm⟩
    rw [he, hse]
  · obtain ⟨g, c, rfl, _, hg, hc, _⟩ := h.block (by omega)
    refine (Try.strings_Join g 0 c (pieces s 0 zs) ⟨#[]⟩ w ?_ hg (by omega) hc ?_).mono fun e w' ⟨he, hw⟩ => ⟨?_, hw⟩
    · intro j x hx
      have hjl : j < (pieces s 0 zs).length := by
        apply Nat.lt_of_not_le
        intro hle
        rw [List.getElem?_eq_none hle] at hx
        cases hx
      rw [List.getElem?_eq_getElem hjl] at hx
      rw [Nat.zero_add, h.cell j hjl, Option.some.inj hx]
    · have := congrArg ByteArray.size hj
      have e2 : (⟨(Lib.join ((pieces s 0 zs).map (·.data.toList)) (⟨#[]⟩ : ByteArray).data.toList).toArray⟩ : ByteArray).size = (Lib.join ((pieces s 0 zs).map (·.data.toList)) (⟨#[]⟩ : ByteArray).data.toList).length := by
        show (Lib.join ((pieces s 0 zs).map (·.data.toList)) (⟨#[]⟩ : ByteArray).data.toList).toArray.size = _
        rw [List.size_toArray]
      rw [e2] at this
      omega
    · rw [he, hj]

set_option maxRecDepth 100000 in
set_option maxHeartbeats 2000000 in
theorem cutSizes_walk (a0 : ByteArray) (a1 a2 a3 : Int) (w : World) (w0 : a0.size ≤ 140737488351232) (_w1 : (Lit.int .i64 a1).wf = true) (_w2 : (Lit.int .i64 a2).wf = true) (_w3 : (Lit.int .i64 a3).wf = true) :
    Calls Try.prog 12 #[.string a0, .int .i64 a1, .int .i64 a2, .int .i64 a3] w fun e w' => e = .returned (.bool true) ∧ Up w w' := by
  have HE := Lib.hid endsSizes
  go_enter Try.func12, Try.ntmps12
  go_wp2_with fail
  refine (ends_ok _ 2 2 65535 _ (by decide) (by omega) (by omega) (by omega) (by omega)).mono ?_
  rintro e v1 ⟨v, rfl, hints, u1⟩
  rw [HE.out] at hints
  obtain ⟨o, c, rfl⟩ := hints.shape
  have HINTS := Lib.hid hints
  clear hints
  go_wp2_with fail
  have hlit : Ints (v1.alloc (.cells #[.int .i64 2, .int .i64 4, .int .i64 5] 3)) 0 (.slice (some ⟨v1.heap.size, 0, none⟩) 3 3) [2, 4, 5] :=
    World.ownsRow_lit v1 _ 3 (Nat.zero_le _) (by unfold maxLen; omega) rfl
  refine (equal_yes _ _ _ _ [2, 4, 5] _ (by simp) (HINTS.out.up (Up.alloc _ _)) hlit).mono ?_
  rintro e v2 ⟨rfl, u2⟩
  have HU := Lib.hid ((u1.trans (Up.alloc _ _)).trans u2)
  clear hlit u1 u2 HINTS
  go_wp2_with fail
  by_cases hs : a0.size ≤ 600
  · by_cases ha : 1 ≤ a1 ∧ a1 ≤ a2 ∧ a2 ≤ 600 ∧ 0 ≤ a3 ∧ a3 ≤ 65535
    · obtain ⟨L, rfl⟩ := Int.eq_ofNat_of_zero_le (show 0 ≤ a1 by omega)
      obtain ⟨M, rfl⟩ := Int.eq_ofNat_of_zero_le (show 0 ≤ a2 by omega)
      obtain ⟨K, rfl⟩ := Int.eq_ofNat_of_zero_le (show 0 ≤ a3 by omega)
      have h1 : 1 ≤ L := by omega
      have h2 : L ≤ M := by omega
      have h3 : M ≤ 600 := by omega
      have h4 : K ≤ 65535 := by omega
      clear ha
      refine (ends_ok _ L M K _ hs h1 h2 h3 h4).mono ?_
      rintro e v3 ⟨vx, rfl, hx, u3⟩
      obtain ⟨ox, cx, rfl⟩ := hx.shape
      have hdv := ends_divs L M K h1 h2 a0
      have hsizes := fun i => piece_sizes L M K h1 h2 a0 i
      have hseen := hx.seen
      have hlz := ends_length L M K h1 h2 a0.data.toList
      rw [len_ba] at hlz
      have hpl := pieces_length a0 ((ends L M K a0.data.toList).map fun x : Nat => (x : Int)) 0
      rw [List.length_map] at hpl
      generalize hlx : ends L M K a0.data.toList = lx at *
      generalize hzs : (lx.map fun x : Nat => (x : Int)) = zs at *
      have HDV := Lib.hid hdv
      have HSIZES := Lib.hid hsizes
      have HSEEN := Lib.hid hseen
      have HPL := Lib.hid hpl
      clear hx hdv hsizes hseen hlx hzs hpl
      go_wp2_with fail
      refine (split_ok a0 _ zs _ hs HSEEN.out HDV.out).mono ?_
      rintro e v4 ⟨vl, rfl, hl, u4⟩
      obtain ⟨ol, cl, rfl⟩ := hl.shape
      have HL := Lib.hid hl
      clear hl
      rw [HPL.out]
      have hlen : ((lx.length : Int) != (lx.length : Int)) = false := by simp
      go_wp2_with fail
      refine (join_pieces _ _ a0 zs _ hs HDV.out (by rw [← HPL.out]; exact HL.out)).mono ?_
      rintro e v5 ⟨rfl, u5⟩
      have HL5 := Lib.hid (HL.out.up u5)
      have HUE := Lib.hid (((HU.out.trans u3).trans u4).trans u5)
      have hl600 : lx.length ≤ 600 := by omega
      generalize hps : pieces a0 0 zs = ps at *
      clear u3 u4 u5 hps hlen
      have hne : (a0.toList != a0.toList) = false := by simp
      go_wp2_with fail
      clear hne
      go_loop [64] (fun i => ∃ k : Nat, k ≤ lx.length ∧ i = .int .i64 k) (fun i => lx.length - (intOf i).toNat)
      case atStart => exact ⟨0, by omega, rfl⟩
      case round =>
        obtain ⟨k, hk, rfl⟩ := hrel
        by_cases hlt : k < lx.length
        · have hkp : k < ps.length := by rw [HPL.out]; exact hlt
          obtain ⟨g, c', hsl, _, _, hc, hm⟩ := HL5.out.block (by omega)
          simp only [Value.slice.injEq, true_and] at hsl
          obtain ⟨rfl, rfl⟩ := hsl
          have hcell := HL5.out.cell k hkp
          obtain ⟨s1, s2, s3⟩ := HSIZES.out k hlt hkp
          rw [HPL.out] at hc
          unfold maxLen at hm
          generalize ps[k] = X at *
          have hxe : X.toList.isEmpty = false := by
            rw [ByteArray.toList_eq]
            have : X.data.toList ≠ [] := fun h => by
              have h5 := len_ba X
              rw [h] at h5
              simp at h5
              omega
            simpa using this
          have d1 : decide (M < X.size) = false := by rw [decide_eq_false_iff_not]; omega
          by_cases hsm : X.size < L
          · have d2 : decide (X.size < L) = true := by rw [decide_eq_true_iff]; exact hsm
            have hlast : ¬ k + 1 < lx.length := fun h => by have := s2 h; omega
            have d3 : decide ((k : Int) < (lx.length : Int) - 1) = false := by rw [decide_eq_false_iff_not]; omega
            clear s2
            go_wp2_with fail
            go_round
            case rel => exact ⟨k + 1, by omega, by go_num⟩
            case measure => simp only [intOf]; omega
          · have d2 : decide (X.size < L) = false := by rw [decide_eq_false_iff_not]; exact hsm
            clear s2
            go_wp2_with fail
            go_round
            case rel => exact ⟨k + 1, by omega, by go_num⟩
            case measure => simp only [intOf]; omega
        · have d : decide (k < lx.length) = false := by rw [decide_eq_false_iff_not]; omega
          go_wp2_with fail
          go_ret
          exact ⟨rfl, HUE.out⟩
    · refine (ends_arg _ _ _ _ _ hs ha).mono ?_
      rintro e v3 ⟨rfl, rfl⟩
      clear ha
      go_wp2_with fail
      go_ret
      exact ⟨rfl, HU.out⟩
  · refine (ends_long _ _ _ _ _ (by omega)).mono ?_
    rintro e v3 ⟨rfl, rfl⟩
    go_wp2_with fail
    go_ret
    exact ⟨rfl, HU.out⟩

end Go.Proofs.Ytidofplebkbbmaa
