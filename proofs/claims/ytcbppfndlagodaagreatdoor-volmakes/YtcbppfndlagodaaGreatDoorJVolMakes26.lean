/-
  The texts RefVol1, Print2, PrintM, RefW, one behind the other; each says below what it holds and on what conditions.
-/
import Derived.Test.YtcbppfndlagodaaGreatDoorJVolMakes14
import Derived.Test.YtcbppfndlagodaaGreatDoorJVolMakes25
import Derived.Shelf.Strings.SlTrimAscii
import Derived.Laws.RangeString
import Derived.Test.YtcbppfndlagodaaGreatDoorJVolMakes05
import Derived.Test.YtcbppfndlagodaaGreatDoorJVolMakes01

/-
  What the reference's Name returns (a text's bytes are all letters and digits: strings.Trim, strings.ContainsFunc). Conditions: a text that fits in memory.
-/
namespace Go.Proofs.YtcbppfndlagodaaGreatDoor
open Go.RowKit
open Go.Proofs
open WoolBag
open WoolVol

def nmP (x : Nat) : Bool := (decide (x < 48) || (decide (57 < x) && decide (x < 97))) || decide (122 < x)

theorem nmP_byte (c : UInt8) : nmP c.toNat = !(nbB c) := by
  unfold nmP nbB
  generalize c.toNat = z
  rw [Bool.eq_iff_iff]
  simp
  omega

theorem refName1_any (x : Nat) (w : World) (hx : x ≤ 1114111) : Calls Tryz.prog 78 #[.int .i32 (x : Int)] w fun e w' => e = .returned (.bool (nmP x)) ∧ w = w' := by
  by_cases h1 : x < 48
  · have e : nmP x = true := by unfold nmP; simp; omega
    rw [e]
    clear e
    go_enter Tryz.func78, Tryz.ntmps78
    go_wp2
    go_ret
    exact ⟨by first | rfl | (simp; done) | (simp; omega), rfl⟩
  by_cases h2 : 57 < x
  · by_cases h3 : x < 97
    · have e : nmP x = true := by unfold nmP; simp; omega
      rw [e]
      clear e
      go_enter Tryz.func78, Tryz.ntmps78
      go_wp2
      go_ret
      exact ⟨by first | rfl | (simp; done) | (simp; omega), rfl⟩
    · by_cases h4 : 122 < x
      · have e : nmP x = true := by unfold nmP; simp; omega
        rw [e]
        clear e
        go_enter Tryz.func78, Tryz.ntmps78
        go_wp2
        go_ret
        exact ⟨by first | rfl | (simp; done) | (simp; omega), rfl⟩
      · have e : nmP x = false := by unfold nmP; simp; omega
        rw [e]
        clear e
        go_enter Tryz.func78, Tryz.ntmps78
        go_wp2
        go_ret
        exact ⟨by first | rfl | (simp; done) | (simp; omega), rfl⟩
  · have e : nmP x = false := by unfold nmP; simp; omega
    rw [e]
    clear e
    go_enter Tryz.func78, Tryz.ntmps78
    go_wp2
    go_ret
    exact ⟨by first | rfl | (simp; done) | (simp; omega), rfl⟩

/-- the letters and digits -/
def alnum : List UInt8 := [97, 98, 99, 100, 101, 102, 103, 104, 105, 106, 107, 108, 109, 110, 111, 112, 113, 114, 115, 116, 117, 118, 119, 120, 121, 122, 48, 49, 50, 51, 52, 53, 54, 55, 56, 57]

set_option maxRecDepth 100000 in
theorem alnum_all : ∀ n, n < 256 → alnum.contains (UInt8.ofNat n) = nbB (UInt8.ofNat n) := by decide

theorem alnum_has (c : UInt8) : alnum.contains c = nbB c := by
  have h := alnum_all c.toNat (UInt8.toNat_lt c)
  rwa [UInt8.ofNat_toNat] at h

theorem dw_nil {p : UInt8 → Bool} : ∀ {l : List UInt8}, (∀ x ∈ l.dropWhile p, p x = true) → ∀ x ∈ l, p x = true
  | [], _ => by simp
  | a :: r, h => by
    rw [List.dropWhile_cons] at h
    by_cases ha : p a = true
    · rw [if_pos ha] at h
      intro x hx
      rcases List.mem_cons.1 hx with rfl | hx
      · exact ha
      · exact dw_nil h x hx
    · rw [if_neg ha] at h
      exact absurd (h a (by simp)) ha

theorem dw_all {p : UInt8 → Bool} : ∀ {l : List UInt8}, (∀ x ∈ l, p x = true) → l.dropWhile p = []
  | [], _ => rfl
  | a :: r, h => by
    rw [List.dropWhile_cons, if_pos (h a (by simp))]
    exact dw_all (fun x hx => h x (by simp [hx]))

theorem trim_nil {s : List UInt8} : Lib.trimS s alnum = [] ↔ s.all nbB = true := by
  unfold Lib.trimS Lib.trimLeftS Lib.trimRightS
  rw [List.all_eq_true]
  constructor
  · intro h
    have h1 : ∀ x ∈ (s.reverse.dropWhile (alnum.contains ·)).reverse, alnum.contains x = true := by
      generalize (s.reverse.dropWhile (alnum.contains ·)).reverse = L at h
      intro x hx
      have : L.dropWhile (alnum.contains ·) = [] := h
      exact dw_nil (p := (alnum.contains ·)) (by rw [this]; simp) x hx
    intro x hx
    rw [← alnum_has]
    exact dw_nil (p := (alnum.contains ·)) (l := s.reverse) (fun y hy => h1 y (by simpa using hy)) x (by simpa using hx)
  · intro h
    have h2 : s.reverse.dropWhile (alnum.contains ·) = [] := by
      refine dw_all (fun x hx => ?_)
      show alnum.contains x = true
      rw [alnum_has]
      exact h x (by simpa using hx)
    rw [h2]; rfl

theorem idx_all (s : List UInt8) (h : s.all nbB = true) : ∀ (f pos : Nat), Lib.idxFuncFrom nmP true (bs s) f pos = -1
  | 0, _ => rfl
  | f + 1, pos => by
    unfold Lib.idxFuncFrom
    split
    · rename_i hp
      have hp' : pos < s.length := by rw [bs_size] at hp; exact hp
      have hb : (bs s)[pos]'hp = s[pos] := by simp [bs, ByteArray.getElem_eq_getElem_data]
      have hn : nbB s[pos] = true := by rw [List.all_eq_true] at h; exact h _ (List.getElem_mem hp')
      have hlt : s[pos].toNat < 128 := by
        unfold nbB at hn
        simp at hn
        omega
      rw [decode_ascii (bs s) pos hp (by rw [hb]; exact hlt), hb]
      simp only
      rw [nmP_byte, hn]
      simp only [Bool.not_true, Bool.false_eq_true, if_false]
      exact idx_all s h f _
    · rfl

theorem i116 : (Tryz.prog.info? 147).map (fun i => (i.zero, i.size)) = some (some (.agg (Array.replicate 256 (.bool false))), 256) := by kernel_rfl

theorem alnum_ascii : ∀ (j : Nat) b, (bs alnum).data.toList[j]? = some b → b.toNat < 128 := by
  rw [bs_list]
  exact ascii_of_all (by decide)

set_option maxRecDepth 100000 in
theorem refTrim (s : List UInt8) (w : World) (hs : s.length ≤ 9223372036854775807) : Calls Tryz.prog 76 #[.string (bs s), .string (bs alnum)] w fun e w' => e = .returned (.string (bs (Lib.trimS s alnum))) ∧ Up w w' := by
  have h := Any.strings_Trim_laid Tryz.lays160 i116 (bs s) (bs alnum) w (by rw [bs_size]; omega) (by decide) alnum_ascii
  rw [bs_list, bs_list] at h
  exact h

set_option maxRecDepth 100000 in
theorem refCont (s : List UInt8) (w : World) (hs : s.all nbB = true) : Calls Tryz.prog 77 #[.string (bs s), .func (.func 78) #[] #[]] w fun e w' => e = .returned (.bool false) ∧ Up w w' := by
  have h := Tryz.strings_ContainsFunc_grows 78 #[] (enters_of Tryz.func78 (by kernel_rfl) rfl) nmP (bs s) w (fun W x hx _ => by
    refine (refName1_any x W hx).mono ?_
    rintro e w' ⟨rfl, rfl⟩
    exact ⟨rfl, Below.refl _ _⟩)
  have e : Lib.idxFunc nmP true (bs s) = -1 := idx_all s hs _ _
  rw [e] at h
  exact h

set_option maxRecDepth 100000 in
set_option maxHeartbeats 400000 in
theorem refName_any (s : List UInt8) (w : World) (hs : s.length ≤ 9223372036854775807) : Calls Tryz.prog 43 #[.string (bs s)] w fun e w' => e = .returned (.bool (nameB s)) ∧ Up w w' := by
  have hsz := bs_size s
  obtain ⟨E, hE⟩ : ∃ E, nameB s = E := ⟨_, rfl⟩
  rw [hE]
  unfold nameB at hE
  have HT := Lib.hid (fun W => refTrim s W hs)
  have HC := Lib.hid (fun (h : s.all nbB = true) W => refCont s W h)
  have hal : bs alnum = ⟨#[97, 98, 99, 100, 101, 102, 103, 104, 105, 106, 107, 108, 109, 110, 111, 112, 113, 114, 115, 116, 117, 118, 119, 120, 121, 122, 48, 49, 50, 51, 52, 53, 54, 55, 56, 57]⟩ := rfl
  rw [hal] at HT
  have HE := Lib.hid hE
  obtain ⟨n, hn⟩ : ∃ n, s.length = n := ⟨_, rfl⟩
  have HN := Lib.hid hn
  rw [hn] at hsz hs
  clear hn hE hal
  by_cases h1 : n < 1
  · have HE2 : Hid (E = false) := by
      rw [← HE.out, HN.out]; show _ = _; simp; omega
    go_enter Tryz.func43, Tryz.ntmps43
    go_wp2_with fail
    go_ret
    exact ⟨by rw [HE2.out]; rfl, Up.refl _⟩
  by_cases h2 : 12 < n
  · have HE2 : Hid (E = false) := by
      rw [← HE.out, HN.out]; show _ = _; simp; omega
    go_enter Tryz.func43, Tryz.ntmps43
    go_wp2_with fail
    go_ret
    exact ⟨by rw [HE2.out]; rfl, Up.refl _⟩
  have HE2 : Hid (E = s.all nbB) := by
    rw [← HE.out, HN.out]; show _ = _
    rw [decide_eq_true (by omega), decide_eq_true (by omega)]; simp
  clear HE
  cases ha : s.all nbB with
  | true =>
    have ht : Lib.trimS s alnum = [] := trim_nil.2 ha
    have hbe : bs [] = ⟨#[]⟩ := rfl
    rw [ht, hbe] at HT
    have HE3 : Hid (E = true) := by rw [HE2.out]; exact ha
    have HC2 := Lib.hid (HC.out ha)
    clear HE2 HC ha ht hbe
    go_enter Tryz.func43, Tryz.ntmps43
    go_wp2_with fail
    refine (HT.out _).mono ?_
    rintro e w1 ⟨rfl, u1⟩
    have HU1 := Lib.hid u1
    clear u1
    go_wp2_with fail
    refine (HC2.out _).mono ?_
    rintro e w2 ⟨rfl, u2⟩
    have HU2 := Lib.hid (HU1.out.trans u2)
    clear u2
    go_wp2_with fail
    go_ret
    exact ⟨by rw [HE3.out]; rfl, HU2.out⟩
  | false =>
    have ht : Lib.trimS s alnum ≠ [] := fun e => by rw [trim_nil.1 e] at ha; cases ha
    have HE3 : Hid (E = false) := by rw [HE2.out]; exact ha
    have hne := not_empty (Lib.trimS s alnum) (List.length_pos_iff.2 ht)
    generalize Lib.trimS s alnum = T at *
    clear HE2 HC ha ht
    go_enter Tryz.func43, Tryz.ntmps43
    go_wp2_with fail
    refine (HT.out _).mono ?_
    rintro e w1 ⟨rfl, u1⟩
    have HU1 := Lib.hid u1
    clear u1
    go_wp2_with fail
    go_ret
    exact ⟨by rw [HE3.out]; rfl, HU1.out⟩

end Go.Proofs.YtcbppfndlagodaaGreatDoor

/-
  What Join and Roll of package print return at wrong arguments, and what Roll returns at right ones. Conditions: the arguments are ints.
-/
namespace Go.Proofs.YtcbppfndlagodaaGreatDoor
open Go.RowKit
open Go.Proofs

/-- what Roll answers -/
def restV (M P X N : Nat) : Nat := P ^^^ WoolMath.pmod (WoolMath.pw 256 N) M ^^^ WoolMath.pmod (WoolMath.mul X (WoolMath.pmod (WoolMath.pw 256 (N - 1)) M)) M
def rollV (M P X Y N : Nat) : Nat := WoolMath.pmod (WoolMath.mul (restV M P X N) 256) M ^^^ WoolMath.pmod Y M ^^^ WoolMath.pmod (WoolMath.pw 256 N) M

theorem xor30 (a b : Nat) (ha : a < 1073741824) (hb : b < 1073741824) : a ^^^ b < 1073741824 := Nat.xor_lt_two_pow (n := 30) ha hb

end Go.Proofs.YtcbppfndlagodaaGreatDoor

/-
  Plain mathematics of fingerprints: of two texts behind one another, of a window that moves on, of three texts added, of a text with some bits turned. No condition but those that each says.
-/
namespace Go.Proofs.YtcbppfndlagodaaGreatDoor
open Go.RowKit
open Go.Proofs

theorem snoc_ind {α : Type} {P : List α → Prop} (h0 : P []) (hs : ∀ l a, P l → P (l ++ [a])) : ∀ l, P l := by
  intro l
  have : ∀ k : List α, P k.reverse := by
    intro k
    induction k with
    | nil => exact h0
    | cons a k ih => rw [List.reverse_cons]; exact hs _ _ ih
  have := this l.reverse
  rwa [List.reverse_reverse] at this

theorem sp_append (l k : List UInt8) : sp (l ++ k) = WoolMath.mul (sp l) (WoolMath.pw 256 k.length) ^^^ (sp k ^^^ WoolMath.pw 256 k.length) := by
  revert k
  refine snoc_ind ?_ ?_
  · rw [List.append_nil, sp_nil, List.length_nil, WoolMath.pw_zero, WoolMath.mul_one, Nat.xor_self, Nat.xor_zero]
  · intro k c ih
    rw [← List.append_assoc, sp_snoc, ih, sp_snoc, List.length_append, List.length_singleton, WoolMath.pw_succ, WoolMath.xor_mul, WoolMath.xor_mul, WoolMath.mul_assoc]
    generalize WoolMath.mul (sp l) (WoolMath.mul (WoolMath.pw 256 k.length) 256) = X
    generalize WoolMath.mul (WoolMath.pw 256 k.length) 256 = Y
    generalize WoolMath.mul (sp k) 256 = Z
    rw [Nat.xor_assoc, Nat.xor_assoc, Nat.xor_assoc, Nat.xor_comm Y]

theorem fp_join (M : Nat) (h : 2 ≤ M) (l k : List UInt8) : fp M (l ++ k) = joinV M (fp M l) (fp M k) k.length := by
  unfold joinV fp
  have hm : M ≠ 0 := by omega
  rw [sp_append, WoolMath.pmod_xor _ _ _ hm, WoolMath.pmod_xor _ _ _ hm, WoolMath.pmod_mul_right _ _ _ hm, WoolMath.pmod_mul_left _ _ _ hm, Nat.xor_assoc]

theorem sp_one (c : UInt8) : sp [c] = 256 ^^^ c.toNat := by
  show WoolMath.mul 1 256 ^^^ c.toNat = _
  rw [WoolMath.one_mul]

theorem fp_roll (M : Nat) (h : 2 ≤ M) (c d : UInt8) (l : List UInt8) : fp M (l ++ [d]) = rollV M (fp M (c :: l)) c.toNat d.toNat (l.length + 1) := by
  have hm : M ≠ 0 := by omega
  have e1 : sp (c :: l) = WoolMath.mul (256 ^^^ c.toNat) (WoolMath.pw 256 l.length) ^^^ (sp l ^^^ WoolMath.pw 256 l.length) := by
    have := sp_append [c] l
    rwa [sp_one] at this
  have e2 : restV M (fp M (c :: l)) c.toNat (l.length + 1) = WoolMath.pmod (sp l ^^^ WoolMath.pw 256 l.length) M := by
    unfold restV fp
    rw [Nat.add_sub_cancel, WoolMath.pmod_mul_right _ _ _ hm, e1, ← WoolMath.pmod_xor _ _ _ hm, ← WoolMath.pmod_xor _ _ _ hm, WoolMath.pw_succ, WoolMath.xor_mul, WoolMath.mul_comm 256]
    congr 1
    generalize WoolMath.mul (WoolMath.pw 256 l.length) 256 = X
    generalize WoolMath.mul c.toNat (WoolMath.pw 256 l.length) = Y
    generalize sp l ^^^ WoolMath.pw 256 l.length = Z
    apply Nat.eq_of_testBit_eq
    intro i
    simp only [Nat.testBit_xor]
    cases X.testBit i <;> cases Y.testBit i <;> cases Z.testBit i <;> rfl
  unfold rollV
  rw [e2, WoolMath.pmod_mul_left _ _ _ hm, ← WoolMath.pmod_xor _ _ _ hm, ← WoolMath.pmod_xor _ _ _ hm, WoolMath.pw_succ, WoolMath.xor_mul]
  unfold fp
  rw [sp_snoc]
  congr 1
  generalize WoolMath.mul (WoolMath.pw 256 l.length) 256 = X
  generalize WoolMath.mul (sp l) 256 = Y
  generalize d.toNat = Z
  apply Nat.eq_of_testBit_eq
  intro i
  simp only [Nat.testBit_xor]
  cases X.testBit i <;> cases Y.testBit i <;> cases Z.testBit i <;> rfl

/-- three texts, added -/
def xor3 : List UInt8 → List UInt8 → List UInt8 → List UInt8
  | a :: l, b :: k, c :: j => (a ^^^ b ^^^ c) :: xor3 l k j
  | _, _, _ => []

theorem xor3_length : ∀ (l k j : List UInt8), k.length = l.length → j.length = l.length → (xor3 l k j).length = l.length
  | [], [], [], _, _ => rfl
  | a :: l, b :: k, c :: j, h1, h2 => by
    simp only [List.length_cons, Nat.add_right_cancel_iff] at h1 h2
    simp only [xor3, List.length_cons, xor3_length l k j h1 h2]
  | [], _ :: _, _, h, _ => by simp at h
  | _ :: _, [], _, h, _ => by simp at h
  | [], [], _ :: _, _, h => by simp at h
  | _ :: _, _ :: _, [], _, h => by simp at h

theorem xor3_snoc : ∀ (l k j : List UInt8) (a b c : UInt8), k.length = l.length → j.length = l.length → xor3 (l ++ [a]) (k ++ [b]) (j ++ [c]) = xor3 l k j ++ [a ^^^ b ^^^ c]
  | [], [], [], _, _, _, _, _ => rfl
  | x :: l, y :: k, z :: j, a, b, c, h1, h2 => by
    simp only [List.length_cons, Nat.add_right_cancel_iff] at h1 h2
    simp only [List.cons_append, xor3, xor3_snoc l k j a b c h1 h2]
  | [], _ :: _, _, _, _, _, h, _ => by simp at h
  | _ :: _, [], _, _, _, _, h, _ => by simp at h
  | [], [], _ :: _, _, _, _, _, h => by simp at h
  | _ :: _, _ :: _, [], _, _, _, _, h => by simp at h

theorem sp_cons (a : UInt8) (l : List UInt8) : sp (a :: l) = WoolMath.mul (256 ^^^ a.toNat) (WoolMath.pw 256 l.length) ^^^ (sp l ^^^ WoolMath.pw 256 l.length) := by
  have := sp_append [a] l
  rwa [sp_one] at this

theorem sp_linear : ∀ (l k j : List UInt8), k.length = l.length → j.length = l.length → sp (xor3 l k j) = sp l ^^^ sp k ^^^ sp j
  | [], [], [], _, _ => by decide
  | a :: l, b :: k, c :: j, h1, h2 => by
    simp only [List.length_cons, Nat.add_right_cancel_iff] at h1 h2
    have ih := sp_linear l k j h1 h2
    have hl := xor3_length l k j h1 h2
    rw [show xor3 (a :: l) (b :: k) (c :: j) = (a ^^^ b ^^^ c) :: xor3 l k j from rfl, sp_cons, sp_cons, sp_cons, sp_cons, hl, ih, h1, h2, UInt8.toNat_xor, UInt8.toNat_xor]
    simp only [WoolMath.xor_mul]
    generalize WoolMath.mul 256 (WoolMath.pw 256 l.length) = X
    generalize WoolMath.mul a.toNat (WoolMath.pw 256 l.length) = A
    generalize WoolMath.mul b.toNat (WoolMath.pw 256 l.length) = B
    generalize WoolMath.mul c.toNat (WoolMath.pw 256 l.length) = C
    generalize WoolMath.pw 256 l.length = T
    generalize sp l = U
    generalize sp k = V
    generalize sp j = W
    apply Nat.eq_of_testBit_eq
    intro i
    simp only [Nat.testBit_xor]
    generalize X.testBit i = x
    generalize A.testBit i = a
    generalize B.testBit i = b
    generalize C.testBit i = c
    generalize T.testBit i = t
    generalize U.testBit i = u
    generalize V.testBit i = v
    generalize W.testBit i = w
    revert x a b c t u v w
    decide
  | [], _ :: _, _, h, _ => by simp at h
  | _ :: _, [], _, h, _ => by simp at h
  | [], [], _ :: _, _, h => by simp at h
  | _ :: _, _ :: _, [], _, h => by simp at h

theorem fp_linear (M : Nat) (h : 2 ≤ M) (l k j : List UInt8) (h1 : k.length = l.length) (h2 : j.length = l.length) : fp M (xor3 l k j) = fp M l ^^^ fp M k ^^^ fp M j := by
  unfold fp
  rw [sp_linear l k j h1 h2, WoolMath.pmod_xor _ _ _ (by omega), WoolMath.pmod_xor _ _ _ (by omega)]

theorem fp_parts (A B : Nat) (hA : A ≠ 0) (hB : B ≠ 0) (l : List UInt8) : WoolMath.pmod (fp (WoolMath.mul A B) l) A = fp A l := by
  unfold fp
  have hm : WoolMath.mul A B ≠ 0 := WoolMath.mul_ne A B hA hB
  obtain ⟨q, hq⟩ := WoolMath.pmod_eq (sp l) (WoolMath.mul A B)
  have e : sp l ^^^ WoolMath.pmod (sp l) (WoolMath.mul A B) = WoolMath.mul q (WoolMath.mul A B) := by
    generalize WoolMath.pmod (sp l) (WoolMath.mul A B) = r at *
    rw [hq, Nat.xor_assoc, Nat.xor_self, Nat.xor_zero]
  symm
  rw [WoolMath.pmod_eq_iff _ _ _ hA, e]
  exact WoolMath.dvd_mul_left _ (WoolMath.dvd_mul_self A B)

/-! ytcbppfndlagodaagreatdoor# bursts -/

theorem mul_mod2 (a b : Nat) : WoolMath.mul a b % 2 = a % 2 * (b % 2) := by
  rw [WoolMath.mul_step]
  have hx : ∀ x y : Nat, (x ^^^ (2 * y)) % 2 = x % 2 := by
    intro x y
    have := Nat.xor_mod_two_pow (a := x) (b := 2 * y) (n := 1)
    rw [Nat.pow_one] at this
    rw [this, show 2 * y % 2 = 0 by omega, Nat.xor_zero]
  rw [hx]
  by_cases h : b % 2 = 1
  · rw [if_pos h, h]; omega
  · have : b % 2 = 0 := by omega
    rw [if_neg h, this]; omega

theorem odd_cancel (M : Nat) (hM : M % 2 = 1) (k : Nat) : ∀ a : Nat, WoolMath.dvd M (a * 2 ^ k) → WoolMath.dvd M a := by
  induction k with
  | zero => intro a h; simpa using h
  | succ k ih =>
    intro a h
    rw [Nat.pow_succ, ← Nat.mul_assoc] at h
    apply ih
    obtain ⟨q, hq⟩ := h
    have h2 := mul_mod2 q M
    rw [← hq, hM] at h2
    have hq2 : q % 2 = 0 := by omega
    have e : q = 2 * (q / 2) := by omega
    rw [e, WoolMath.even_mul] at hq
    exact ⟨q / 2, by omega⟩

theorem burst_differ (M : Nat) (hM : M % 2 = 1) (h16 : 65536 ≤ M) (X T k : Nat) (hT0 : T ≠ 0) (hT : T < 65536) : WoolMath.pmod (X ^^^ (T * 2 ^ k)) M ≠ WoolMath.pmod X M := by
  intro h
  rw [WoolMath.pmod_eq_iff _ _ _ (by omega)] at h
  have e : X ^^^ T * 2 ^ k ^^^ X = T * 2 ^ k := by
    rw [Nat.xor_comm X, Nat.xor_assoc, Nat.xor_self, Nat.xor_zero]
  rw [e] at h
  have hd := odd_cancel M hM k T h
  have hlog : 16 ≤ M.log2 := (Nat.le_log2 (by omega)).2 (by omega)
  have : T < 2 ^ M.log2 := Nat.lt_of_lt_of_le (show T < 2 ^ 16 by omega) (Nat.pow_le_pow_right (by omega) hlog)
  exact WoolMath.not_dvd_small hT0 this hd

end Go.Proofs.YtcbppfndlagodaaGreatDoor

/-
  What the reference's within returns, for every three ints. No condition.
-/
namespace Go.Proofs.YtcbppfndlagodaaGreatDoor
open Go.RowKit
open Go.Proofs

theorem refWithin_yes (x a b : Int) (w : World) (h1 : a ≤ x) (h2 : x ≤ b) :
    Calls Tryz.prog 29 #[.int .i64 x, .int .i64 a, .int .i64 b] w fun e w' => e = .returned (.bool true) ∧ w = w' := by
  have d1 : decide (a ≤ x) = true := by rw [decide_eq_true_iff]; omega
  have d2 : decide (x ≤ b) = true := by rw [decide_eq_true_iff]; omega
  go_enter Tryz.func29, Tryz.ntmps29
  go_wp2
  go_ret
  exact ⟨rfl, rfl⟩

theorem refWithin_no (x a b : Int) (w : World) (h : x < a ∨ b < x) :
    Calls Tryz.prog 29 #[.int .i64 x, .int .i64 a, .int .i64 b] w fun e w' => e = .returned (.bool false) ∧ w = w' := by
  by_cases h1 : a ≤ x
  · have d1 : decide (a ≤ x) = true := by rw [decide_eq_true_iff]; omega
    have d2 : decide (x ≤ b) = false := by rw [decide_eq_false_iff_not]; omega
    clear h
    go_enter Tryz.func29, Tryz.ntmps29
    go_wp2
    go_ret
    exact ⟨rfl, rfl⟩
  · have d1 : decide (a ≤ x) = false := by rw [decide_eq_false_iff_not]; omega
    clear h
    go_enter Tryz.func29, Tryz.ntmps29
    go_wp2
    go_ret
    exact ⟨rfl, rfl⟩

end Go.Proofs.YtcbppfndlagodaaGreatDoor
