/-
  The law MatchFirst, walked: for every text and every two numbers the Go text returns true. Conditions: a text that came in has at most 2^47 - 4096 bytes.
-/
import Derived.Test.YtbcebfjnpeacnaaRefMatch
import Derived.Test.YtbcebfjnpeacnaaShelf
import Derived.Deep.RegionHeld3
namespace Go.Proofs.Ytbcebfjnpeacnaa
open Go.RowKit
open Go.Proofs
open WoolMatch

theorem aaaa : long (⟨#[97, 97, 97, 97]⟩ : ByteArray).data.toList 1 9 = (1, 3) := by decide +kernel

theorem ib_mem (c : UInt8) : ∀ l : List UInt8, 0 ≤ Lib.indexByte l c ↔ c ∈ l
  | [] => by unfold Lib.indexByte; simp
  | b :: l => by
    have ih := ib_mem c l
    have hg := Lib.indexByte_ge l c
    unfold Lib.indexByte
    rw [List.mem_cons]
    by_cases h : b = c
    · subst h; simp
    · rw [if_neg (by simpa using h)]
      by_cases h1 : Lib.indexByte l c = -1
      · rw [if_pos (by simpa using h1)]
        constructor
        · intro h0; omega
        · rintro (e | e)
          · exact absurd e.symm h
          · have := ih.2 e; omega
      · rw [if_neg (by simpa using h1)]
        constructor
        · intro _; exact .inr (ih.1 (by omega))
        · intro _; omega

theorem long_pos (L : List UInt8) (i W : Nat) (hi : i < L.length) : 0 < (long L i W).2 ↔ ∃ d, 1 ≤ d ∧ d ≤ W ∧ d ≤ i ∧ L[i]? = L[i - d]? := by
  constructor
  · intro h
    have hd := long_dist L i W
    have h0 : 0 < (long L i W).1 := by
      rcases Nat.eq_zero_or_pos (long L i W).1 with e | e
      · have := (long_zero L i W).2 e; omega
      · exact e
    exact ⟨_, h0, hd.1, hd.2, long_same L i W 0 h⟩
  · rintro ⟨d, h1, h2, h3, h4⟩
    have h5 : 1 ≤ com L i d := com_ge L i d 1 (by unfold most; omega) (fun j hj => by
      obtain rfl : j = 0 := by omega
      exact h4)
    have := (long_best L i W d h1 h2 h3).1
    omega

theorem first_there (s : ByteArray) (i W : Nat) (x : UInt8) (hi : i < s.size) (hx : s.data.toList[i]? = some x) :
    0 ≤ Lib.indexByte (s.extract (i - W) i).data.toList x ↔ 0 < (long s.data.toList i W).2 := by
  rw [ib_mem, long_pos _ _ _ (by rw [ba_length]; exact hi)]
  have e : (s.extract (i - W) i).data.toList = (s.data.toList.drop (i - W)).take (i - (i - W)) := by rw [← ext_list, ByteArray.toList_eq]
  rw [e, List.mem_iff_getElem?]
  constructor
  · rintro ⟨k, hk⟩
    rw [List.getElem?_take] at hk
    by_cases hlt : k < i - (i - W)
    · rw [if_pos hlt, List.getElem?_drop] at hk
      refine ⟨i - (i - W + k), by omega, by omega, by omega, ?_⟩
      rw [hx, ← hk]
      congr 1
      omega
    · rw [if_neg hlt] at hk; cases hk
  · rintro ⟨d, h1, h2, h3, h4⟩
    refine ⟨i - d - (i - W), ?_⟩
    rw [List.getElem?_take, if_pos (by omega), List.getElem?_drop, ← hx, h4]
    congr 1
    omega

theorem nat_u8 (x : UInt8) : ((x.toNat : Int).toNat).toUInt8 = x := by
  rw [Int.toNat_natCast]
  exact UInt8.ofNat_toNat

set_option maxRecDepth 100000 in
set_option maxHeartbeats 1000000 in
theorem matchFirst_walk (a0 : ByteArray) (a1 a2 : Int) (w : World) (_w0 : a0.size ≤ 140737488351232) (_w1 : (Lit.int .i64 a1).wf = true) (_w2 : (Lit.int .i64 a2).wf = true) :
    Calls Try.prog 10 #[.string a0, .int .i64 a1, .int .i64 a2] w fun e w' => e = .returned (.bool true) ∧ Up w w' := by
  go_enter Try.func10, Try.ntmps10
  go_wp2_with fail
  refine (longest_ok ⟨#[97, 97, 97, 97]⟩ 1 9 _ (by decide) (by decide) (by omega) (by omega)).mono ?_
  rintro e v1 ⟨rfl, u1⟩
  rw [aaaa]
  by_cases hs : 600 < a0.size
  · go_wp2_with fail
    refine (longest_large a0 a1 a2 _ hs).mono ?_
    rintro e v2 ⟨rfl, rfl⟩
    go_wp2_with fail
    go_ret
    exact ⟨rfl, u1⟩
  · by_cases hf : fits a0 a1 a2
    · obtain ⟨f1, f2, f3, f4⟩ := hf
      obtain ⟨i, rfl⟩ := Int.eq_ofNat_of_zero_le f1
      obtain ⟨W, rfl⟩ := Int.eq_ofNat_of_zero_le (show 0 ≤ a2 by omega)
      have hi : i ≤ a0.size := by omega
      have d2 : decide ((i : Int) < 0) = false := by rw [decide_eq_false_iff_not]; omega
      go_wp2_with fail
      refine (longest_ok a0 i W _ (by omega) (by omega) (by omega) (by omega)).mono ?_
      rintro e v2 ⟨rfl, u2⟩
      have U2 := Lib.hid (u1.trans u2)
      clear u1 u2
      have e2 := long_fits a0.data.toList i W (by rw [ba_length]; exact hi)
      rw [ba_length] at e2
      have e3 := long_zero a0.data.toList i W
      have e4 := first_there a0 i W
      obtain ⟨X, hX⟩ : ∃ X, (long a0.data.toList i W).1 = X := ⟨_, rfl⟩
      obtain ⟨Y, hY⟩ : ∃ Y, (long a0.data.toList i W).2 = Y := ⟨_, rfl⟩
      rw [hX, hY] at e3 ⊢
      rw [hY] at e2 e4
      clear hX hY
      by_cases hend : a0.size ≤ i
      · have c1 : decide (a0.size ≤ i) = true := by rw [decide_eq_true_iff]; omega
        obtain rfl : Y = 0 := by omega
        obtain rfl : X = 0 := e3.1 rfl
        clear e3 e4
        go_wp2_with fail
        go_ret
        exact ⟨rfl, U2.out⟩
      · have c1 : decide (a0.size ≤ i) = false := by rw [decide_eq_false_iff_not]; omega
        obtain ⟨x, q1⟩ : ∃ x, a0.data.toList[i]? = some x := ⟨_, list_at a0 i (by omega)⟩
        have r1 := str_index a0 (i : Int) i x rfl q1
        have hmax : max 0 ((i : Int) - (W : Int)) = ((i - W : Nat) : Int) := by omega
        have r2 := str_slice a0 ((i - W : Nat) : Int) (i : Int) (i - W) i rfl rfl (by omega) (by omega)
        have p1 : IntKind.i64.wrap ((i : Int) - (W : Int)) = (i : Int) - (W : Int) := IntWalk.i64_in _ (by omega)
        have ht := e4 x (by omega) q1
        have HE := Lib.hid (nat_u8 x)
        obtain ⟨I, hI⟩ : ∃ I, Lib.indexByte (a0.extract (i - W) i).data.toList x = I := ⟨_, rfl⟩
        rw [hI] at ht
        have HI := Lib.hid hI
        obtain ⟨b, b1, b2⟩ : ∃ b : Bool, decide (0 ≤ I) = b ∧ decide (0 < Y) = b := by
          refine ⟨_, rfl, ?_⟩
          rw [Bool.eq_iff_iff, decide_eq_true_iff, decide_eq_true_iff, ht]
        clear e3 e4 q1 hI ht
        obtain ⟨t, ht⟩ : ∃ t, a0.extract (i - W) i = t := ⟨_, rfl⟩
        rw [ht] at r2
        have HT := Lib.hid ht
        clear ht
        go_wp2_with fail
        go_region_held3 (fun _ => True) (trivial) (first
          | (go_at_call 22; refine (Try.strings_IndexByte _ _ _).mono ?_; rintro e v3 ⟨rfl, rfl⟩; rw [HE.out, ← HT.out, HI.out]))
        all_goals
          go_wp2_with fail
          go_ret
          exact ⟨rfl, U2.out.trans (Up.drew _)⟩
    · have HF := Lib.hid hf
      clear hf
      go_wp2_with fail
      refine (longest_arg a0 a1 a2 _ (by omega) HF.out).mono ?_
      rintro e v2 ⟨rfl, rfl⟩
      go_wp2_with fail
      go_ret
      exact ⟨rfl, u1⟩

end Go.Proofs.Ytbcebfjnpeacnaa
