/-
  The texts ShelfN, RefVol1, Print2, one behind the other; each says below what it holds and on what conditions.
-/
import Derived.Shelf.Strings.Trim
import Derived.Shelf.LaysM
import Derived.Shelf.Strings.FuncGrows
import Derived.Test.YtcbppfndlagodaaGreatDoorProg
import Derived.Test.YtcbppfndlagodaaGreatDoorJDiffSays14
import Derived.Shelf.Strings.SlTrimAscii
import Derived.Laws.RangeString
import Derived.Test.YtcbppfndlagodaaGreatDoorJDiffSays12

/-
  Contracts of library functions at this program, each one application of a theorem of the library: what is proved is what each says. Conditions: as each says.
-/
namespace Go.Proofs
open Go.Shelf
def Tryz.lays160_ren : Go.Shelf.Ren := ⟨fun | 160 => 76 | 232 => 105 | 231 => 104 | 227 => 106 | 234 => 108 | 233 => 107 | 236 => 110 | 235 => 109 | 228 => 138 | 271 => 141 | 151 => 140 | 197 => 139 | 120 => 155 | 152 => 154 | 260 => 153 | 137 => 161 | 119 => 162 | 224 => 163 | 225 => 164 | 217 => 169 | 266 => 171 | n => n, fun | 9 => 9 | 4 => 4 | 3 => 3 | 5 => 5 | 117 => 148 | 116 => 147 | 0 => 0 | 124 => 151 | 21 => 21 | 105 => 173 | 46 => 132 | 119 => 195 | 139 => 198 | 138 => 197 | n => n, fun | 3 => 0 | 4 => 1 | n => n⟩
theorem Tryz.lays160 : Go.Proofs.Lays.n160 Tryz.prog Tryz.lays160_ren := {
  mixed := by kernel_rfl
  f119 := Tryz.func162.trans (congrArg some (by kernel_rfl))
  f120 := Tryz.func155.trans (congrArg some (by kernel_rfl))
  f137 := Tryz.func161.trans (congrArg some (by kernel_rfl))
  f151 := Tryz.func140.trans (congrArg some (by kernel_rfl))
  f152 := Tryz.func154.trans (congrArg some (by kernel_rfl))
  f160 := Tryz.func76.trans (congrArg some (by kernel_rfl))
  f197 := Tryz.func139.trans (congrArg some (by kernel_rfl))
  f217 := Tryz.func169.trans (congrArg some (by kernel_rfl))
  f224 := Tryz.func163.trans (congrArg some (by kernel_rfl))
  f225 := Tryz.func164.trans (congrArg some (by kernel_rfl))
  f227 := Tryz.func106.trans (congrArg some (by kernel_rfl))
  f228 := Tryz.func138.trans (congrArg some (by kernel_rfl))
  f231 := Tryz.func104.trans (congrArg some (by kernel_rfl))
  f232 := Tryz.func105.trans (congrArg some (by kernel_rfl))
  f233 := Tryz.func107.trans (congrArg some (by kernel_rfl))
  f234 := Tryz.func108.trans (congrArg some (by kernel_rfl))
  f235 := Tryz.func109.trans (congrArg some (by kernel_rfl))
  f236 := Tryz.func110.trans (congrArg some (by kernel_rfl))
  f260 := Tryz.func153.trans (congrArg some (by kernel_rfl))
  f266 := Tryz.func171.trans (congrArg some (by kernel_rfl))
  f271 := Tryz.func141.trans (congrArg some (by kernel_rfl))
  t0 := Tryz.underlying0
  a0 := Tryz.isAgg0
  z0 := Tryz.sizeOf0
  v0 := Tryz.zeroValue0
  t3 := Tryz.underlying3
  a3 := Tryz.isAgg3
  z3 := Tryz.sizeOf3
  v3 := Tryz.zeroValue3
  t4 := Tryz.underlying4
  a4 := Tryz.isAgg4
  z4 := Tryz.sizeOf4
  v4 := Tryz.zeroValue4
  t5 := Tryz.underlying5
  a5 := Tryz.isAgg5
  z5 := Tryz.sizeOf5
  v5 := Tryz.zeroValue5
  t9 := Tryz.underlying9
  a9 := Tryz.isAgg9
  z9 := Tryz.sizeOf9
  v9 := Tryz.zeroValue9
  t21 := Tryz.underlying21
  a21 := Tryz.isAgg21
  z21 := Tryz.sizeOf21
  v21 := Tryz.zeroValue21
  t46 := Tryz.underlying132
  a46 := Tryz.isAgg132
  z46 := Tryz.sizeOf132
  v46 := Tryz.zeroValue132
  t105 := Tryz.underlying173
  a105 := Tryz.isAgg173
  z105 := Tryz.sizeOf173
  v105 := Tryz.zeroValue173
  t116 := Tryz.underlying147
  a116 := Tryz.isAgg147
  z116 := Tryz.sizeOf147
  t117 := Tryz.underlying148
  a117 := Tryz.isAgg148
  z117 := Tryz.sizeOf148
  v117 := Tryz.zeroValue148
  t119 := Tryz.underlying195
  a119 := Tryz.isAgg195
  z119 := Tryz.sizeOf195
  t124 := Tryz.underlying151
  a124 := Tryz.isAgg151
  z124 := Tryz.sizeOf151
  v124 := Tryz.zeroValue151
  t138 := Tryz.underlying197
  a138 := Tryz.isAgg197
  z138 := Tryz.sizeOf197
  v138 := Tryz.zeroValue197
  t139 := Tryz.underlying198
  a139 := Tryz.isAgg198
  z139 := Tryz.sizeOf198
  v139 := Tryz.zeroValue198
  g3 := by kernel_rfl
  g4 := by kernel_rfl }
def Tryz.laysGw17_ren : Go.Shelf.Ren := ⟨fun | 17 => 77 | 15 => 111 | 20 => 142 | n => n, fun | 9 => 9 | 23 => 115 | 4 => 4 | 3 => 3 | 0 => 0 | 21 => 21 | n => n, fun | n => n⟩
theorem Tryz.laysGw17 : Go.Proofs.LaysGw.n17 Tryz.prog Tryz.laysGw17_ren := {
  mixed := by kernel_rfl
  f15 := Tryz.func111.trans (congrArg some (by kernel_rfl))
  f17 := Tryz.func77.trans (congrArg some (by kernel_rfl))
  f20 := Tryz.func142.trans (congrArg some (by kernel_rfl))
  t0 := Tryz.underlying0
  a0 := Tryz.isAgg0
  z0 := Tryz.sizeOf0
  v0 := Tryz.zeroValue0
  i0 := by kernel_rfl
  t3 := Tryz.underlying3
  a3 := Tryz.isAgg3
  z3 := Tryz.sizeOf3
  v3 := Tryz.zeroValue3
  i3 := by kernel_rfl
  t4 := Tryz.underlying4
  a4 := Tryz.isAgg4
  z4 := Tryz.sizeOf4
  v4 := Tryz.zeroValue4
  i4 := by kernel_rfl
  t9 := Tryz.underlying9
  a9 := Tryz.isAgg9
  z9 := Tryz.sizeOf9
  v9 := Tryz.zeroValue9
  i9 := by kernel_rfl
  t21 := Tryz.underlying21
  a21 := Tryz.isAgg21
  z21 := Tryz.sizeOf21
  v21 := Tryz.zeroValue21
  i21 := by kernel_rfl
  t23 := Tryz.underlying115
  a23 := Tryz.isAgg115
  z23 := Tryz.sizeOf115
  v23 := Tryz.zeroValue115
  i23 := by kernel_rfl }
open Go.RowKit Go.Lib in
theorem Tryz.strings_ContainsFunc_grows (g : Nat) (lb : Array Value) (eg : ∀ args w, (callFunc g args).run Tryz.prog w = .ok (.enter g args) w) (p : Nat → Bool) (s : ByteArray) (w : World) (hp : PredGrows Tryz.prog g lb p w) :
    Calls Tryz.prog 77 #[.string s, .func (.func g) #[] lb] w fun e w' => e = .returned (.bool (decide (0 ≤ Lib.idxFunc p true s))) ∧ Below w.heap.size w w' := Any.strings_ContainsFunc_grows Tryz.laysGw17 g lb eg p s w hp
end Go.Proofs

/-
  What the reference's Name returns (a text's bytes are all letters and digits: strings.Trim, strings.ContainsFunc). Conditions: a text that fits in memory.
-/
namespace Go.Proofs.YtcbppfndlagodaaGreatDoor
open Go.RowKit
open Go.Proofs
open WoolBag
open WoolVol

def nmP (x : Nat) : Bool := (decide (x < 48) || (decide (57 < x) && decide (x < 97))) || decide (122 < x)

theorem nmP_byte (c : UInt8) : nmP c.toNat = !(nbB c) := by
  unfold nmP nbB
  generalize c.toNat = z
  rw [Bool.eq_iff_iff]
  simp
  omega

theorem refName1_any (x : Nat) (w : World) (hx : x ≤ 1114111) : Calls Tryz.prog 78 #[.int .i32 (x : Int)] w fun e w' => e = .returned (.bool (nmP x)) ∧ w = w' := by
  by_cases h1 : x < 48
  · have e : nmP x = true := by unfold nmP; simp; omega
    rw [e]
    clear e
    go_enter Tryz.func78, Tryz.ntmps78
    go_wp2
    go_ret
    exact ⟨by first | rfl | (simp; done) | (simp; omega), rfl⟩
  by_cases h2 : 57 < x
  · by_cases h3 : x < 97
    · have e : nmP x = true := by unfold nmP; simp; omega
      rw [e]
      clear e
      go_enter Tryz.func78, Tryz.ntmps78
      go_wp2
      go_ret
      exact ⟨by first | rfl | (simp; done) | (simp; omega), rfl⟩
    · by_cases h4 : 122 < x
      · have e : nmP x = true := by unfold nmP; simp; omega
        rw [e]
        clear e
        go_enter Tryz.func78, Tryz.ntmps78
        go_wp2
        go_ret
        exact ⟨by first | rfl | (simp; done) | (simp; omega), rfl⟩
      · have e : nmP x = false := by unfold nmP; simp; omega
        rw [e]
        clear e
        go_enter Tryz.func78, Tryz.ntmps78
        go_wp2
        go_ret
        exact ⟨by first | rfl | (simp; done) | (simp; omega), rfl⟩
  · have e : nmP x = false := by unfold nmP; simp; omega
    rw [e]
    clear e
    go_enter Tryz.func78, Tryz.ntmps78
    go_wp2
    go_ret
    exact ⟨by first | rfl | (simp; done) | (simp; omega), rfl⟩

/-- the letters and digits -/
def alnum : List UInt8 := [97, 98, 99, 100, 101, 102, 103, 104, 105, 106, 107, 108, 109, 110, 111, 112, 113, 114, 115, 116, 117, 118, 119, 120, 121, 122, 48, 49, 50, 51, 52, 53, 54, 55, 56, 57]

set_option maxRecDepth 100000 in
theorem alnum_all : ∀ n, n < 256 → alnum.contains (UInt8.ofNat n) = nbB (UInt8.ofNat n) := by decide

theorem alnum_has (c : UInt8) : alnum.contains c = nbB c := by
  have h := alnum_all c.toNat (UInt8.toNat_lt c)
  rwa [UInt8.ofNat_toNat] at h

theorem dw_nil {p : UInt8 → Bool} : ∀ {l : List UInt8}, (∀ x ∈ l.dropWhile p, p x = true) → ∀ x ∈ l, p x = true
  | [], _ => by simp
  | a :: r, h => by
    rw [List.dropWhile_cons] at h
    by_cases ha : p a = true
    · rw [if_pos ha] at h
      intro x hx
      rcases List.mem_cons.1 hx with rfl | hx
      · exact ha
      · exact dw_nil h x hx
    · rw [if_neg ha] at h
      exact absurd (h a (by simp)) ha

theorem dw_all {p : UInt8 → Bool} : ∀ {l : List UInt8}, (∀ x ∈ l, p x = true) → l.dropWhile p = []
  | [], _ => rfl
  | a :: r, h => by
    rw [List.dropWhile_cons, if_pos (h a (by simp))]
    exact dw_all (fun x hx => h x (by simp [hx]))

theorem trim_nil {s : List UInt8} : Lib.trimS s alnum = [] ↔ s.all nbB = true := by
  unfold Lib.trimS Lib.trimLeftS Lib.trimRightS
  rw [List.all_eq_true]
  constructor
  · intro h
    have h1 : ∀ x ∈ (s.reverse.dropWhile (alnum.contains ·)).reverse, alnum.contains x = true := by
      generalize (s.reverse.dropWhile (alnum.contains ·)).reverse = L at h
      intro x hx
      have : L.dropWhile (alnum.contains ·) = [] := h
      exact dw_nil (p := (alnum.contains ·)) (by rw [this]; simp) x hx
    intro x hx
    rw [← alnum_has]
    exact dw_nil (p := (alnum.contains ·)) (l := s.reverse) (fun y hy => h1 y (by simpa using hy)) x (by simpa using hx)
  · intro h
    have h2 : s.reverse.dropWhile (alnum.contains ·) = [] := by
      refine dw_all (fun x hx => ?_)
      show alnum.contains x = true
      rw [alnum_has]
      exact h x (by simpa using hx)
    rw [h2]; rfl

theorem idx_all (s : List UInt8) (h : s.all nbB = true) : ∀ (f pos : Nat), Lib.idxFuncFrom nmP true (bs s) f pos = -1
  | 0, _ => rfl
  | f + 1, pos => by
    unfold Lib.idxFuncFrom
    split
    · rename_i hp
      have hp' : pos < s.length := by rw [bs_size] at hp; exact hp
      have hb : (bs s)[pos]'hp = s[pos] := by simp [bs, ByteArray.getElem_eq_getElem_data]
      have hn : nbB s[pos] = true := by rw [List.all_eq_true] at h; exact h _ (List.getElem_mem hp')
      have hlt : s[pos].toNat < 128 := by
        unfold nbB at hn
        simp at hn
        omega
      rw [decode_ascii (bs s) pos hp (by rw [hb]; exact hlt), hb]
      simp only
      rw [nmP_byte, hn]
      simp only [Bool.not_true, Bool.false_eq_true, if_false]
      exact idx_all s h f _
    · rfl

theorem i116 : (Tryz.prog.info? 147).map (fun i => (i.zero, i.size)) = some (some (.agg (Array.replicate 256 (.bool false))), 256) := by kernel_rfl

theorem alnum_ascii : ∀ (j : Nat) b, (bs alnum).data.toList[j]? = some b → b.toNat < 128 := by
  rw [bs_list]
  exact ascii_of_all (by decide)

set_option maxRecDepth 100000 in
theorem refTrim (s : List UInt8) (w : World) (hs : s.length ≤ 9223372036854775807) : Calls Tryz.prog 76 #[.string (bs s), .string (bs alnum)] w fun e w' => e = .returned (.string (bs (Lib.trimS s alnum))) ∧ Up w w' := by
  have h := Any.strings_Trim_laid Tryz.lays160 i116 (bs s) (bs alnum) w (by rw [bs_size]; omega) (by decide) alnum_ascii
  rw [bs_list, bs_list] at h
  exact h

set_option maxRecDepth 100000 in
theorem refCont (s : List UInt8) (w : World) (hs : s.all nbB = true) : Calls Tryz.prog 77 #[.string (bs s), .func (.func 78) #[] #[]] w fun e w' => e = .returned (.bool false) ∧ Up w w' := by
  have h := Tryz.strings_ContainsFunc_grows 78 #[] (enters_of Tryz.func78 (by kernel_rfl) rfl) nmP (bs s) w (fun W x hx _ => by
    refine (refName1_any x W hx).mono ?_
    rintro e w' ⟨rfl, rfl⟩
    exact ⟨rfl, Below.refl _ _⟩)
  have e : Lib.idxFunc nmP true (bs s) = -1 := idx_all s hs _ _
  rw [e] at h
  exact h

set_option maxRecDepth 100000 in
set_option maxHeartbeats 400000 in
theorem refName_any (s : List UInt8) (w : World) (hs : s.length ≤ 9223372036854775807) : Calls Tryz.prog 43 #[.string (bs s)] w fun e w' => e = .returned (.bool (nameB s)) ∧ Up w w' := by
  have hsz := bs_size s
  obtain ⟨E, hE⟩ : ∃ E, nameB s = E := ⟨_, rfl⟩
  rw [hE]
  unfold nameB at hE
  have HT := Lib.hid (fun W => refTrim s W hs)
  have HC := Lib.hid (fun (h : s.all nbB = true) W => refCont s W h)
  have hal : bs alnum = ⟨#[97, 98, 99, 100, 101, 102, 103, 104, 105, 106, 107, 108, 109, 110, 111, 112, 113, 114, 115, 116, 117, 118, 119, 120, 121, 122, 48, 49, 50, 51, 52, 53, 54, 55, 56, 57]⟩ := rfl
  rw [hal] at HT
  have HE := Lib.hid hE
  obtain ⟨n, hn⟩ : ∃ n, s.length = n := ⟨_, rfl⟩
  have HN := Lib.hid hn
  rw [hn] at hsz hs
  clear hn hE hal
  by_cases h1 : n < 1
  · have HE2 : Hid (E = false) := by
      rw [← HE.out, HN.out]; show _ = _; simp; omega
    go_enter Tryz.func43, Tryz.ntmps43
    go_wp2_with fail
    go_ret
    exact ⟨by rw [HE2.out]; rfl, Up.refl _⟩
  by_cases h2 : 12 < n
  · have HE2 : Hid (E = false) := by
      rw [← HE.out, HN.out]; show _ = _; simp; omega
    go_enter Tryz.func43, Tryz.ntmps43
    go_wp2_with fail
    go_ret
    exact ⟨by rw [HE2.out]; rfl, Up.refl _⟩
  have HE2 : Hid (E = s.all nbB) := by
    rw [← HE.out, HN.out]; show _ = _
    rw [decide_eq_true (by omega), decide_eq_true (by omega)]; simp
  clear HE
  cases ha : s.all nbB with
  | true =>
    have ht : Lib.trimS s alnum = [] := trim_nil.2 ha
    have hbe : bs [] = ⟨#[]⟩ := rfl
    rw [ht, hbe] at HT
    have HE3 : Hid (E = true) := by rw [HE2.out]; exact ha
    have HC2 := Lib.hid (HC.out ha)
    clear HE2 HC ha ht hbe
    go_enter Tryz.func43, Tryz.ntmps43
    go_wp2_with fail
    refine (HT.out _).mono ?_
    rintro e w1 ⟨rfl, u1⟩
    have HU1 := Lib.hid u1
    clear u1
    go_wp2_with fail
    refine (HC2.out _).mono ?_
    rintro e w2 ⟨rfl, u2⟩
    have HU2 := Lib.hid (HU1.out.trans u2)
    clear u2
    go_wp2_with fail
    go_ret
    exact ⟨by rw [HE3.out]; rfl, HU2.out⟩
  | false =>
    have ht : Lib.trimS s alnum ≠ [] := fun e => by rw [trim_nil.1 e] at ha; cases ha
    have HE3 : Hid (E = false) := by rw [HE2.out]; exact ha
    have hne := not_empty (Lib.trimS s alnum) (List.length_pos_iff.2 ht)
    generalize Lib.trimS s alnum = T at *
    clear HE2 HC ha ht
    go_enter Tryz.func43, Tryz.ntmps43
    go_wp2_with fail
    refine (HT.out _).mono ?_
    rintro e w1 ⟨rfl, u1⟩
    have HU1 := Lib.hid u1
    clear u1
    go_wp2_with fail
    go_ret
    exact ⟨by rw [HE3.out]; rfl, HU1.out⟩

end Go.Proofs.YtcbppfndlagodaaGreatDoor

/-
  What Join and Roll of package print return at wrong arguments, and what Roll returns at right ones. Conditions: the arguments are ints.
-/
namespace Go.Proofs.YtcbppfndlagodaaGreatDoor
open Go.RowKit
open Go.Proofs

/-- what Roll answers -/
def restV (M P X N : Nat) : Nat := P ^^^ WoolMath.pmod (WoolMath.pw 256 N) M ^^^ WoolMath.pmod (WoolMath.mul X (WoolMath.pmod (WoolMath.pw 256 (N - 1)) M)) M
def rollV (M P X Y N : Nat) : Nat := WoolMath.pmod (WoolMath.mul (restV M P X N) 256) M ^^^ WoolMath.pmod Y M ^^^ WoolMath.pmod (WoolMath.pw 256 N) M

theorem xor30 (a b : Nat) (ha : a < 1073741824) (hb : b < 1073741824) : a ^^^ b < 1073741824 := Nat.xor_lt_two_pow (n := 30) ha hb

end Go.Proofs.YtcbppfndlagodaaGreatDoor
