/-
  What the reference's Name returns (a text's bytes are all letters and digits: strings.Trim, strings.ContainsFunc). Conditions: a text that fits in memory.
-/
import Derived.Test.YtbeigaanlhaolaaDoorNameV
import Derived.Test.YtbeigaanlhaolaaDoorShelfN
import Derived.Shelf.Strings.SlTrimAscii
import Derived.Laws.RangeString
namespace Go.Proofs.YtbeigaanlhaolaaDoor
open Go.RowKit
open Go.Proofs
open WoolBag
open WoolVol

def nmP (x : Nat) : Bool := (decide (x < 48) || (decide (57 < x) && decide (x < 97))) || decide (122 < x)

theorem nmP_byte (c : UInt8) : nmP c.toNat = !(nbB c) := by
  unfold nmP nbB
  generalize c.toNat = z
  rw [Bool.eq_iff_iff]
  simp
  omega

theorem refName1_any (x : Nat) (w : World) (hx : x ≤ 1114111) : Calls Tryd.prog 19 #[.int .i32 (x : Int)] w fun e w' => e = .returned (.bool (nmP x)) ∧ w = w' := by
  by_cases h1 : x < 48
  · have e : nmP x = true := by unfold nmP; simp; omega
    rw [e]
    clear e
    go_enter Tryd.func19, Tryd.ntmps19
    go_wp2
    go_ret
    exact ⟨by first | rfl | (simp; done) | (simp; omega), rfl⟩
  by_cases h2 : 57 < x
  · by_cases h3 : x < 97
    · have e : nmP x = true := by unfold nmP; simp; omega
      rw [e]
      clear e
      go_enter Tryd.func19, Tryd.ntmps19
      go_wp2
      go_ret
      exact ⟨by first | rfl | (simp; done) | (simp; omega), rfl⟩
    · by_cases h4 : 122 < x
      · have e : nmP x = true := by unfold nmP; simp; omega
        rw [e]
        clear e
        go_enter Tryd.func19, Tryd.ntmps19
        go_wp2
        go_ret
        exact ⟨by first | rfl | (simp; done) | (simp; omega), rfl⟩
      · have e : nmP x = false := by unfold nmP; simp; omega
        rw [e]
        clear e
        go_enter Tryd.func19, Tryd.ntmps19
        go_wp2
        go_ret
        exact ⟨by first | rfl | (simp; done) | (simp; omega), rfl⟩
  · have e : nmP x = false := by unfold nmP; simp; omega
    rw [e]
    clear e
    go_enter Tryd.func19, Tryd.ntmps19
    go_wp2
    go_ret
    exact ⟨by first | rfl | (simp; done) | (simp; omega), rfl⟩

/-- the letters and digits -/
def alnum : List UInt8 := [97, 98, 99, 100, 101, 102, 103, 104, 105, 106, 107, 108, 109, 110, 111, 112, 113, 114, 115, 116, 117, 118, 119, 120, 121, 122, 48, 49, 50, 51, 52, 53, 54, 55, 56, 57]

set_option maxRecDepth 100000 in
theorem alnum_all : ∀ n, n < 256 → alnum.contains (UInt8.ofNat n) = nbB (UInt8.ofNat n) := by decide

theorem alnum_has (c : UInt8) : alnum.contains c = nbB c := by
  have h := alnum_all c.toNat (UInt8.toNat_lt c)
  rwa [UInt8.ofNat_toNat] at h

theorem dw_nil {p : UInt8 → Bool} : ∀ {l : List UInt8}, (∀ x ∈ l.dropWhile p, p x = true) → ∀ x ∈ l, p x = true
  | [], _ => by simp
  | a :: r, h => by
    rw [List.dropWhile_cons] at h
    by_cases ha : p a = true
    · rw [if_pos ha] at h
      intro x hx
      rcases List.mem_cons.1 hx with rfl | hx
      · exact ha
      · exact dw_nil h x hx
    · rw [if_neg ha] at h
      exact absurd (h a (by simp)) ha

theorem dw_all {p : UInt8 → Bool} : ∀ {l : List UInt8}, (∀ x ∈ l, p x = true) → l.dropWhile p = []
  | [], _ => rfl
  | a :: r, h => by
    rw [List.dropWhile_cons, if_pos (h a (by simp))]
    exact dw_all (fun x hx => h x (by simp [hx]))

theorem trim_nil {s : List UInt8} : Lib.trimS s alnum = [] ↔ s.all nbB = true := by
  unfold Lib.trimS Lib.trimLeftS Lib.trimRightS
  rw [List.all_eq_true]
  constructor
  · intro h
    have h1 : ∀ x ∈ (s.reverse.dropWhile (alnum.contains ·)).reverse, alnum.contains x = true := by
      generalize (s.reverse.dropWhile (alnum.contains ·)).reverse = L at h
      intro x hx
      have : L.dropWhile (alnum.contains ·) = [] := h
      exact dw_nil (p := (alnum.contains ·)) (by rw [this]; simp) x hx
    intro x hx
    rw [← alnum_has]
    exact dw_nil (p := (alnum.contains ·)) (l := s.reverse) (fun y hy => h1 y (by simpa using hy)) x (by simpa using hx)
  · intro h
    have h2 : s.reverse.dropWhile (alnum.contains ·) = [] := by
      refine dw_all (fun x hx => ?_)
      show alnum.contains x = true
      rw [alnum_has]
      exact h x (by simpa using hx)
    rw [h2]; rfl

theorem idx_all (s : List UInt8) (h : s.all nbB = true) : ∀ (f pos : Nat), Lib.idxFuncFrom nmP true (bs s) f pos = -1
  | 0, _ => rfl
  | f + 1, pos => by
    unfold Lib.idxFuncFrom
    split
    · rename_i hp
      have hp' : pos < s.length := by rw [bs_size] at hp; exact hp
      have hb : (bs s)[pos]'hp = s[pos] := by simp [bs, ByteArray.getElem_eq_getElem_data]
      have hn : nbB s[pos] = true := by rw [List.all_eq_true] at h; exact h _ (List.getElem_mem hp')
      have hlt : s[pos].toNat < 128 := by
        unfold nbB at hn
        simp at hn
        omega
      rw [decode_ascii (bs s) pos hp (by rw [hb]; exact hlt), hb]
      simp only
      rw [nmP_byte, hn]
      simp only [Bool.not_true, Bool.false_eq_true, if_false]
      exact idx_all s h f _
    · rfl

theorem i116 : (Tryd.prog.info? 48).map (fun i => (i.zero, i.size)) = some (some (.agg (Array.replicate 256 (.bool false))), 256) := by kernel_rfl

theorem alnum_ascii : ∀ (j : Nat) b, (bs alnum).data.toList[j]? = some b → b.toNat < 128 := by
  rw [bs_list]
  exact ascii_of_all (by decide)

set_option maxRecDepth 100000 in
theorem refTrim (s : List UInt8) (w : World) (hs : s.length ≤ 9223372036854775807) : Calls Tryd.prog 17 #[.string (bs s), .string (bs alnum)] w fun e w' => e = .returned (.string (bs (Lib.trimS s alnum))) ∧ Up w w' := by
  have h := Any.strings_Trim_laid Tryd.lays160 i116 (bs s) (bs alnum) w (by rw [bs_size]; omega) (by decide) alnum_ascii
  rw [bs_list, bs_list] at h
  exact h

set_option maxRecDepth 100000 in
theorem refCont (s : List UInt8) (w : World) (hs : s.all nbB = true) : Calls Tryd.prog 18 #[.string (bs s), .func (.func 19) #[] #[]] w fun e w' => e = .returned (.bool false) ∧ Up w w' := by
  have h := Tryd.strings_ContainsFunc_grows 19 #[] (enters_of Tryd.func19 (by kernel_rfl) rfl) nmP (bs s) w (fun W x hx _ => by
    refine (refName1_any x W hx).mono ?_
    rintro e w' ⟨rfl, rfl⟩
    exact ⟨rfl, Below.refl _ _⟩)
  have e : Lib.idxFunc nmP true (bs s) = -1 := idx_all s hs _ _
  rw [e] at h
  exact h

set_option maxRecDepth 100000 in
set_option maxHeartbeats 400000 in
theorem refName_any (s : List UInt8) (w : World) (hs : s.length ≤ 9223372036854775807) : Calls Tryd.prog 12 #[.string (bs s)] w fun e w' => e = .returned (.bool (nameB s)) ∧ Up w w' := by
  have hsz := bs_size s
  obtain ⟨E, hE⟩ : ∃ E, nameB s = E := ⟨_, rfl⟩
  rw [hE]
  unfold nameB at hE
  have HT := Lib.hid (fun W => refTrim s W hs)
  have HC := Lib.hid (fun (h : s.all nbB = true) W => refCont s W h)
  have hal : bs alnum = ⟨#[97, 98, 99, 100, 101, 102, 103, 104, 105, 106, 107, 108, 109, 110, 111, 112, 113, 114, 115, 116, 117, 118, 119, 120, 121, 122, 48, 49, 50, 51, 52, 53, 54, 55, 56, 57]⟩ := rfl
  rw [hal] at HT
  have HE := Lib.hid hE
  obtain ⟨n, hn⟩ : ∃ n, s.length = n := ⟨_, rfl⟩
  have HN := Lib.hid hn
  rw [hn] at hsz hs
  clear hn hE hal
  by_cases h1 : n < 1
  · have HE2 : Hid (E = false) := by
      rw [← HE.out, HN.out]; show _ = _; simp; omega
    go_enter Tryd.func12, Tryd.ntmps12
    go_wp2_with fail
    go_ret
    exact ⟨by rw [HE2.out]; rfl, Up.refl _⟩
  by_cases h2 : 12 < n
  · have HE2 : Hid (E = false) := by
      rw [← HE.out, HN.out]; show _ = _; simp; omega
    go_enter Tryd.func12, Tryd.ntmps12
    go_wp2_with fail
    go_ret
    exact ⟨by rw [HE2.out]; rfl, Up.refl _⟩
  have HE2 : Hid (E = s.all nbB) := by
    rw [← HE.out, HN.out]; show _ = _
    rw [decide_eq_true (by omega), decide_eq_true (by omega)]; simp
  clear HE
  cases ha : s.all nbB with
  | true =>
    have ht : Lib.trimS s alnum = [] := trim_nil.2 ha
    have hbe : bs [] = ⟨#[]⟩ := rfl
    rw [ht, hbe] at HT
    have HE3 : Hid (E = true) := by rw [HE2.out]; exact ha
    have HC2 := Lib.hid (HC.out ha)
    clear HE2 HC ha ht hbe
    go_enter Tryd.func12, Tryd.ntmps12
    go_wp2_with fail
    refine (HT.out _).mono ?_
    rintro e w1 ⟨rfl, u1⟩
    have HU1 := Lib.hid u1
    clear u1
    go_wp2_with fail
    refine (HC2.out _).mono ?_
    rintro e w2 ⟨rfl, u2⟩
    have HU2 := Lib.hid (HU1.out.trans u2)
    clear u2
    go_wp2_with fail
    go_ret
    exact ⟨by rw [HE3.out]; rfl, HU2.out⟩
  | false =>
    have ht : Lib.trimS s alnum ≠ [] := fun e => by rw [trim_nil.1 e] at ha; cases ha
    have HE3 : Hid (E = false) := by rw [HE2.out]; exact ha
    have hne := not_empty (Lib.trimS s alnum) (List.length_pos_iff.2 ht)
    generalize Lib.trimS s alnum = T at *
    clear HE2 HC ha ht
    go_enter Tryd.func12, Tryd.ntmps12
    go_wp2_with fail
    refine (HT.out _).mono ?_
    rintro e w1 ⟨rfl, u1⟩
    have HU1 := Lib.hid u1
    clear u1
    go_wp2_with fail
    go_ret
    exact ⟨by rw [HE3.out]; rfl, HU1.out⟩

end Go.Proofs.YtbeigaanlhaolaaDoor
