/-
  The texts Print, Bag1, one behind the other; each says below what it holds and on what conditions.
-/
import Derived.Test.YtkghinpajogdhaaJTopProof05
import Derived.Deep.RegionHeld3
import Derived.Test.YtkghinpajogdhaaJTopProof21
import Derived.BigRegion
import Derived.Shelf.Abstract

/-
  What the functions of package print return, at every argument: the error that the document lists first, else the fingerprint by the plain mathematics of polynomials. Conditions: the arguments are ints and strings.
-/
namespace Go.Proofs.Ytkghinpajogdhaa
open Go.RowKit
open Go.Proofs

/-- a text as a polynomial: a 1, and its bits behind it -/
def sp (l : List UInt8) : Nat := l.foldl (fun p c => WoolMath.mul p 256 ^^^ c.toNat) 1

theorem sp_nil : sp [] = 1 := rfl
theorem sp_snoc (l : List UInt8) (c : UInt8) : sp (l ++ [c]) = WoolMath.mul (sp l) 256 ^^^ c.toNat := by
  unfold sp; rw [List.foldl_append]; rfl

/-- the fingerprint -/
def fp (M : Nat) (l : List UInt8) : Nat := WoolMath.pmod (sp l) M

theorem fp_nil (M : Nat) (h : 2 ≤ M) : fp M [] = 1 := by
  unfold fp
  rw [sp_nil]
  refine WoolMath.pmod_small _ _ (by omega) ?_
  have h1 : 1 ≤ M.log2 := (Nat.le_log2 (by omega)).2 h
  exact Nat.one_lt_two_pow (by omega)

theorem fp_snoc (M : Nat) (h : 2 ≤ M) (l : List UInt8) (c : UInt8) :
    fp M (l ++ [c]) = WoolMath.pmod (WoolMath.mul (fp M l) 256) M ^^^ WoolMath.pmod c.toNat M := by
  unfold fp
  rw [sp_snoc, WoolMath.pmod_xor _ _ _ (by omega), WoolMath.pmod_mul_left _ _ _ (by omega)]

theorem fp_lt (M : Nat) (h : 2 ≤ M) (l : List UInt8) : fp M l < 2 ^ M.log2 := WoolMath.pmod_lt _ _ (by omega)
theorem fp_le (M : Nat) (h : 2 ≤ M) (h2 : M ≤ 2147483647) (l : List UInt8) : fp M l < 1073741824 := pmod_le _ _ (by omega) h2

theorem mod_ok (m : Int) (w : World) (h0 : 2 ≤ m) (h1 : m ≤ 2147483647) :
    Calls Try.prog 76 #[.int .i64 m] w fun e w' => e = .returned (.int .i64 0) ∧ w = w' := by
  have d1 : decide (m < 2) = false := by rw [decide_eq_false_iff_not]; omega
  go_enter Try.func76, Try.ntmps76
  go_wp2_with (go_at_call 53; refine (check_ok _ _ (by omega) h1).mono ?_; rintro e w' ⟨rfl, rfl⟩)
  go_ret
  exact ⟨rfl, rfl⟩

theorem mod_bad (m : Int) (w : World) (h : m < 2 ∨ 2147483647 < m) :
    Calls Try.prog 76 #[.int .i64 m] w fun e w' => e = .returned (.int .i64 1) ∧ w = w' := by
  by_cases h0 : m < 2
  · have d1 : decide (m < 2) = true := by rw [decide_eq_true_iff]; omega
    clear h
    go_enter Try.func76, Try.ntmps76
    go_wp2
    go_ret
    exact ⟨rfl, rfl⟩
  · have d1 : decide (m < 2) = false := by rw [decide_eq_false_iff_not]; omega
    have hb : m < 0 ∨ 2147483647 < m := by omega
    have HB := Lib.hid hb
    clear h hb
    go_enter Try.func76, Try.ntmps76
    go_wp2_with (go_at_call 53; refine (check_bad _ _ HB.out).mono ?_; rintro e w' ⟨rfl, rfl⟩)
    go_ret
    exact ⟨rfl, rfl⟩

theorem times_any (A B M : Nat) (w : World) (hA : A ≤ 2147483647) (hB : B ≤ 2147483647) (hM0 : 0 < M) (hM : M ≤ 2147483647) :
    Calls Try.prog 77 #[.int .i64 (A : Int), .int .i64 (B : Int), .int .i64 (M : Int)] w fun e w' => e = .returned (.int .i64 (WoolMath.pmod (WoolMath.mul A B) M : Nat)) ∧ Up w w' := by
  generalize hR : WoolMath.pmod (WoolMath.mul A B) M = R
  have HR := Lib.hid hR
  clear hR
  go_enter Try.func77, Try.ntmps77
  go_wp2_with fail
  refine (modMulN A B M _ hA hB hM0 hM).mono ?_
  rintro e w1 ⟨rfl, u1⟩
  rw [HR.out]
  go_wp2_with fail
  go_ret
  exact ⟨rfl, u1⟩

theorem prem_any (A M : Nat) (w : World) (hA : A ≤ 2147483647) (hM0 : 0 < M) (hM : M ≤ 2147483647) :
    Calls Try.prog 78 #[.int .i64 (A : Int), .int .i64 (M : Int)] w fun e w' => e = .returned (.int .i64 (WoolMath.pmod A M : Nat)) ∧ Up w w' := by
  generalize hR : WoolMath.pmod A M = R
  have HR := Lib.hid hR
  clear hR
  go_enter Try.func78, Try.ntmps78
  go_wp2_with fail
  refine (divN A M _ hA hM0 hM).mono ?_
  rintro e w1 ⟨rfl, u1⟩
  rw [HR.out]
  generalize WoolMath.pdiv A M = Q at *
  go_wp2_with fail
  go_ret
  exact ⟨rfl, u1⟩

/-! ytkghinpajogdhaa# Of -/

def OfRel (M : Nat) (s : ByteArray) (w : World) (p i : Value) (wr : World) : Prop :=
  ∃ k : Nat, k ≤ s.size ∧ i = .int .i64 k ∧ p = .int .i64 (fp M (s.data.toList.take k) : Nat) ∧ Up w wr

set_option maxRecDepth 100000 in
set_option maxHeartbeats 400000 in
theorem of_ok (M : Nat) (s : ByteArray) (w : World) (h0 : 2 ≤ M) (h1 : M ≤ 2147483647) (hs : s.size ≤ 600) :
    Calls Try.prog 51 #[.int .i64 (M : Int), .string s] w fun e w' => e = .returned (.tuple #[.int .i64 (fp M s.data.toList : Nat), .int .i64 0]) ∧ Up w w' := by
  generalize hF : fp M s.data.toList = F
  have HF := Lib.hid hF
  clear hF
  go_enter Try.func51, Try.ntmps51
  go_wp2_with (go_at_call 76; refine (mod_ok _ _ (by omega) (by omega)).mono ?_; rintro e w' ⟨rfl, rfl⟩)
  go_loopw [7, 19] (fun p i wr => OfRel M s w p i wr) (fun _ i _ => s.size - (intOf i).toNat)
  case atStart => exact ⟨0, by omega, rfl, by rw [List.take_zero, fp_nil M h0]; rfl, Up.refl w⟩
  case round =>
    obtain ⟨k, hk, rfl, rfl, hu⟩ := hrel
    have hlt0 := fp_le M h0 h1 (s.data.toList.take k)
    by_cases hlt : k < s.size
    · have hsn := fp_snoc M h0 (s.data.toList.take k) s[k]
      rw [← take_snoc s k hlt] at hsn
      have hc : s[k].toNat < 256 := UInt8.toNat_lt _
      have hx := i64_xor_nat (WoolMath.pmod (WoolMath.mul (fp M (s.data.toList.take k)) 256) M) (WoolMath.pmod s[k].toNat M) (Nat.lt_trans (pmod_le _ _ (by omega) h1) (by decide)) (Nat.lt_trans (pmod_le _ _ (by omega) h1) (by decide))
      rw [← hsn] at hx
      generalize hP : fp M (s.data.toList.take k) = P at *
      generalize hQ : fp M (s.data.toList.take (k + 1)) = Q at *
      generalize hX : WoolMath.pmod (WoolMath.mul P 256) M = X at *
      generalize hY : WoolMath.pmod s[k].toNat M = Y at *
      have HU := Lib.hid hu
      have HQ := Lib.hid hQ
      have HX := Lib.hid hX
      have HY := Lib.hid hY
      have HXY := Lib.hid hx
      have HW := Lib.hid (wrap_i64_nat s[k].toNat (by omega))
      clear hu hQ hP hX hY hsn hx
      go_wp2_with fail
      go_region_held3 (fun _ => True) (trivial) (first
        | (go_at_call 77; refine (times_any P 256 M _ (by omega) (by omega) (by omega) (by omega)).mono ?_; rintro e w1 ⟨rfl, u1⟩; rw [HX.out])
        | (go_at_call 78; rw [HW.out]; refine (prem_any s[k].toNat M _ (by omega) (by omega) (by omega)).mono ?_; rintro e w2 ⟨rfl, u2⟩; rw [HY.out]))
      all_goals
        rw [HXY.out]
        go_wp2_with fail
        go_roundw
        case rel => exact ⟨k + 1, by omega, by go_num, by rw [HQ.out], ((HU.out.trans (Below.drew (Up.refl _))).trans u1).trans u2⟩
        case measure => simp only [intOf]; omega
    · obtain rfl : k = s.size := by omega
      have HT := Lib.hid (show s.data.toList.take s.size = s.data.toList from List.take_of_length_le (by simp))
      rw [HT.out]
      rw [HF.out] at *
      go_wp2_with fail
      go_ret2
      exact ⟨rfl, hu⟩

set_option maxRecDepth 100000 in
theorem of_long (M : Nat) (s : ByteArray) (w : World) (h0 : 2 ≤ M) (h1 : M ≤ 2147483647) (hs : 600 < s.size) :
    Calls Try.prog 51 #[.int .i64 (M : Int), .string s] w fun e w' => e = .returned (.tuple #[.int .i64 0, .int .i64 2]) ∧ w = w' := by
  go_enter Try.func51, Try.ntmps51
  go_wp2_with (go_at_call 76; refine (mod_ok _ _ (by omega) (by omega)).mono ?_; rintro e w' ⟨rfl, rfl⟩)
  go_ret2
  exact ⟨rfl, rfl⟩

set_option maxRecDepth 100000 in
theorem of_bad (m : Int) (s : ByteArray) (w : World) (h : m < 2 ∨ 2147483647 < m) :
    Calls Try.prog 51 #[.int .i64 m, .string s] w fun e w' => e = .returned (.tuple #[.int .i64 0, .int .i64 1]) ∧ w = w' := by
  have H := Lib.hid h
  clear h
  go_enter Try.func51, Try.ntmps51
  go_wp2_with (go_at_call 76; refine (mod_bad _ _ H.out).mono ?_; rintro e w' ⟨rfl, rfl⟩)
  go_ret2
  exact ⟨rfl, rfl⟩

/-- Of, whatever it answers -/
def OfPost (w : World) (e : Ending) (w' : World) : Prop := ∃ V E : Int, e = .returned (.tuple #[.int .i64 V, .int .i64 E]) ∧ Up w w'

theorem of_any (M : Nat) (s : ByteArray) (w : World) (h0 : 2 ≤ M) (h1 : M ≤ 2147483647) :
    Calls Try.prog 51 #[.int .i64 (M : Int), .string s] w (OfPost w) := by
  by_cases h : s.size ≤ 600
  · exact (of_ok M s w h0 h1 h).mono fun e w' ⟨he, hu⟩ => ⟨_, _, he, hu⟩
  · exact (of_long M s w h0 h1 (by omega)).mono fun e w' ⟨he, hu⟩ => ⟨_, _, he, Up.of_eq hu⟩

/-! ytkghinpajogdhaa# Join, Roll -/

/-- is a a rest by m? -/
def isRest (a : Int) (M : Nat) : Prop := 0 ≤ a ∧ a < ((2 ^ M.log2 : Nat) : Int)

theorem pow_log2_le (M : Nat) (h0 : M ≠ 0) (h : M ≤ 2147483647) : 2 ^ M.log2 ≤ 1073741824 := by
  have := (Nat.log2_lt h0).2 (show M < 2 ^ 31 by omega)
  exact Nat.pow_le_pow_right (n := 2) (by omega) (show M.log2 ≤ 30 by omega)

theorem rest_blen (A M : Nat) (h : 2 ≤ M) : A < 2 ^ M.log2 ↔ WoolMath.blen A < WoolMath.blen M := by
  rw [WoolMath.blen_pos M (by omega)]
  constructor
  · intro h1
    have := WoolMath.blen_le A _ h1
    omega
  · intro h1
    exact Nat.lt_of_lt_of_le (WoolMath.lt_blen A) (Nat.pow_le_pow_right (by omega) (by omega))

/-- what Join answers -/
def joinV (M A B N : Nat) : Nat := WoolMath.pmod (WoolMath.mul A (WoolMath.pmod (WoolMath.pw 256 N) M)) M ^^^ B ^^^ WoolMath.pmod (WoolMath.pw 256 N) M

theorem lt63 (a : Nat) (h : a < 1073741824) : a < 9223372036854775808 := by omega

end Go.Proofs.Ytkghinpajogdhaa

/-
  What the predicates of package bag return; slices.IndexFunc and ContainsFunc over items by them; fingerprint and identifier. Conditions: as each says.
-/
namespace Go.Proofs.Ytkghinpajogdhaa
open Go.RowKit
open Go.Proofs
open WoolBag

/-- a function value that tells p of an item, in every world in which nothing that is in w has turned -/
def Pred (w : World) (g : Nat) (lb : Array Value) (p : Itm → Bool) : Prop :=
  ∀ W, Up w W → ∀ x, Calls Try.prog g (#[itV x] ++ lb) W fun e w' => e = .returned (.bool (p x)) ∧ Up W w'

def ixI (p : Itm → Bool) (l : List Itm) : Int := match idx p l with | some i => (i : Int) | none => -1

def IxRel (p : Itm → Bool) (l : List Itm) (w : World) (i : Value) (wr : World) : Prop :=
  ∃ k : Nat, k ≤ l.length ∧ i = .int .i64 k ∧ Up w wr ∧ ∀ j (h : j < l.length), j < k → p l[j] = false

set_option maxRecDepth 100000 in
set_option maxHeartbeats 400000 in
theorem indexF (v : Value) (l : List Itm) (w : World) (g : Nat) (lb : Array Value) (p : Itm → Bool) (eg : ∀ args w, (callFunc g args).run Try.prog w = .ok (.enter g args) w) (h : Items w v l) (hp : Pred w g lb p) :
    Calls Try.prog 66 #[v, .func (.func g) #[] lb] w fun e w' => e = .returned (.int .i64 (ixI p l)) ∧ Up w w' := by
  obtain ⟨o, c, rfl, h2, h3, h4⟩ := h
  unfold maxLen at h3
  have H4 := Lib.hid h4
  have HP := Lib.hid hp
  clear h4 hp
  obtain ⟨R, hR⟩ : ∃ R, ixI p l = R := ⟨_, rfl⟩
  rw [hR]
  have HR := Lib.hid hR
  clear hR
  go_enter Try.func66, Try.ntmps66
  go_wp2_with fail
  go_loopw [5, 8] (fun _ i wr => IxRel p l w i wr) (fun _ i _ => l.length - (intOf i).toNat)
  case atStart => exact ⟨0, Nat.zero_le _, rfl, Up.refl w, fun j _ hj => by omega⟩
  case round =>
    obtain ⟨k, hk, rfl, hu, hno⟩ := hrel
    by_cases hlt : k < l.length
    · rcases H4.out with h5 | ⟨b, off, rfl, h5⟩
      · rw [h5] at hlt; simp at hlt
      · obtain ⟨a1, a2, a3, a4⟩ := h5 k hlt
        rw [← hu.cell (World.block_lt_of_cell? w _ a1)] at a1
        rw [← hu.cell (World.block_lt_of_cell? w _ a2)] at a2
        rw [← hu.cell (World.block_lt_of_cell? w _ a3)] at a3
        rw [← hu.cell (World.block_lt_of_cell? w _ a4)] at a4
        have hcall := HP.out wr hu l[k]
        have HU := Lib.hid hu
        have HN := Lib.hid hno
        have d1 : decide (k < l.length) = true := decide_eq_true hlt
        obtain ⟨P, hP⟩ : ∃ P, p l[k] = P := ⟨_, rfl⟩
        rw [hP] at hcall
        have HPP := Lib.hid hP
        unfold itV at hcall
        generalize l[k].s = xs at a1 hcall
        generalize l[k].n = xn at a2 hcall
        generalize l[k].t = xt at a3 hcall
        generalize l[k].r = xr at a4 hcall
        clear h5 hu hno hP
        cases P with
        | true =>
          go_wp2_with (go_at_fn g; refine hcall.mono ?_; rintro e w1 ⟨rfl, u1⟩)
          go_ret
          refine ⟨?_, HU.out.trans u1⟩
          rw [← HR.out]
          unfold ixI
          rw [idx_of hlt HPP.out (fun j hj => HN.out j (by omega) hj)]
          rfl
        | false =>
          go_wp2_with (go_at_fn g; refine hcall.mono ?_; rintro e w1 ⟨rfl, u1⟩)
          go_roundw
          case rel =>
            refine ⟨k + 1, by omega, by go_num, HU.out.trans u1, fun j hj hjk => ?_⟩
            by_cases e : j = k
            · subst e; exact HPP.out
            · exact HN.out j hj (by omega)
          case measure => simp only [intOf]; omega
    · have d1 : decide (k < l.length) = false := decide_eq_false hlt
      have HN := Lib.hid hno
      clear hno
      go_wp2_with fail
      go_ret
      refine ⟨?_, hu⟩
      rw [← HR.out]
      unfold ixI
      rw [idx_none.2 (fun x hx => by obtain ⟨i, hi, rfl⟩ := List.getElem_of_mem hx; exact HN.out i hi (by omega))]
      rfl

theorem ixI_any (p : Itm → Bool) (l : List Itm) : decide (0 ≤ ixI p l) = l.any p := by
  unfold ixI
  cases h : idx p l with
  | none =>
    have : l.any p = false := by
      rw [Bool.eq_false_iff]
      intro h'
      exact any_iff.1 h' h
    rw [this]; rfl
  | some i =>
    have : l.any p = true := any_iff.2 (by rw [h]; simp)
    rw [this]; simp

set_option maxRecDepth 100000 in
theorem containsF (v : Value) (l : List Itm) (w : World) (g : Nat) (lb : Array Value) (p : Itm → Bool) (eg : ∀ args w, (callFunc g args).run Try.prog w = .ok (.enter g args) w) (h : Items w v l) (hp : Pred w g lb p) :
    Calls Try.prog 88 #[v, .func (.func g) #[] lb] w fun e w' => e = .returned (.bool (l.any p)) ∧ Up w w' := by
  obtain ⟨o, c, hv, hc⟩ := h.slice
  rw [← ixI_any]
  have hcall := indexF v l w g lb p eg h hp
  generalize ixI p l = R at hcall ⊢
  subst hv
  clear h hp eg
  go_enter Try.func88, Try.ntmps88
  go_wp2_with fail
  refine hcall.mono ?_
  rintro e w1 ⟨rfl, u1⟩
  go_wp2_with fail
  go_ret
  exact ⟨rfl, u1⟩

/-! ytkghinpajogdhaa# the predicates -/

theorem txt_eq (a b : List UInt8) : ((bs a).toList == (bs b).toList) = (a == b) := by
  rw [ByteArray.toList_eq, ByteArray.toList_eq, bs_list, bs_list]

theorem hasText_in (t : List UInt8) (B : Nat) (x : Itm) (W : World) (hB : B < W.heap.size) (hc : W.cell? ⟨B, 0, none⟩ = some (.string (bs t))) :
    Calls Try.prog 86 #[itV x, .pointer (some ⟨B, 0, none⟩)] W fun e w' => e = .returned (.bool (txtB t x)) ∧ Up W w' := by
  unfold itV
  have hq := txt_eq x.t t
  have hb : txtB t x = (x.t == t) := rfl
  rw [hb]
  generalize (x.t == t) = q at hq ⊢
  have hne : B ≠ W.heap.size := by omega
  clear hb
  go_enter Try.func86, Try.ntmps86
  go_wp2_with fail
  all_goals
    go_ret
    exact ⟨by simp_all, Up.alloc _ _⟩

theorem isBehind_in (a x : Itm) (B : Nat) (W : World) (hB : B < W.heap.size) (h0 : W.cell? ⟨B, 0, none⟩ = some (.int .i64 a.s)) (h1 : W.cell? ⟨B, 1, none⟩ = some (.int .i64 a.n)) :
    Calls Try.prog 95 #[itV x, .pointer (some ⟨B, 0, none⟩)] W fun e w' => e = .returned (.bool (behB a x)) ∧ Up W w' := by
  unfold itV behB
  generalize a.s = sa at h0 ⊢
  generalize a.n = an at h1 ⊢
  generalize x.s = xs
  generalize x.n = xn
  have hne : B ≠ W.heap.size := by omega
  by_cases c1 : sa < xs
  · have d1 : decide (sa < xs) = true := decide_eq_true c1
    go_enter Try.func95, Try.ntmps95
    go_wp2_with fail
    go_ret
    exact ⟨by simp [d1], Up.alloc _ _⟩
  · have d1 : decide (sa < xs) = false := decide_eq_false c1
    by_cases c2 : xs = sa
    · subst c2
      by_cases c3 : an < xn
      · have d3 : decide (an < xn) = true := decide_eq_true c3
        go_enter Try.func95, Try.ntmps95
        go_wp2_with fail
        go_ret
        exact ⟨by simp, Up.alloc _ _⟩
      · have d3 : decide (an < xn) = false := decide_eq_false c3
        go_enter Try.func95, Try.ntmps95
        go_wp2_with fail
        go_ret
        exact ⟨by simp, Up.alloc _ _⟩
    · have d2 : (xs == sa) = false := by simpa using c2
      go_enter Try.func95, Try.ntmps95
      go_wp2_with fail
      go_ret
      exact ⟨by simp, Up.alloc _ _⟩

/-- a block of three cells -/
def BoxI (W : World) (B : Nat) (t : TypeId) (x y z : Value) : Prop := W.heap[B]? = some (.cells #[x, y, z] t (0, 0))

theorem BoxI.cells {W : World} {B : Nat} {t : TypeId} {x y z : Value} (h : BoxI W B t x y z) : W.cell? ⟨B, 0, none⟩ = some x ∧ W.cell? ⟨B, 1, none⟩ = some y ∧ W.cell? ⟨B, 2, none⟩ = some z :=
  ⟨cell_of_row _ _ 0 _ _ _ h, cell_of_row _ _ 1 _ _ _ h, cell_of_row _ _ 2 _ _ _ h⟩
theorem BoxI.new (W : World) (t : TypeId) (x y z : Value) : BoxI (W.alloc (.cells #[x, y, z] t)) W.heap.size t x y z := heap_alloc_new W _
theorem BoxI.below {W W' : World} {n B : Nat} {t : TypeId} {x y z : Value} (h : BoxI W B t x y z) (hb : Below n W W') (hB : B < n) : BoxI W' B t x y z := (hb.block B hB).trans h
theorem BoxI.lt {W : World} {B : Nat} {t : TypeId} {x y z : Value} (h : BoxI W B t x y z) : B < W.heap.size := (Array.getElem?_eq_some_iff.1 h).1
theorem BoxI.up {W W' : World} {B : Nat} {t : TypeId} {x y z : Value} (h : BoxI W B t x y z) (hb : Up W W') : BoxI W' B t x y z := h.below hb h.lt
theorem BoxI.frozen {W : World} {B : Nat} {t : TypeId} {x y z : Value} (h : BoxI W B t x y z) (k : Nat) : W.frozen? ⟨B, k, none⟩ = false := by
  unfold BoxI at h; simp [World.frozen?, h]
theorem BoxI.set {W : World} {B : Nat} {t : TypeId} {x y z : Value} (h : BoxI W B t x y z) (x' y' z' : Value) : BoxI (((W.setCell ⟨B, 0, none⟩ x').setCell ⟨B, 1, none⟩ y').setCell ⟨B, 2, none⟩ z') B t x' y' z' := by
  unfold BoxI at h ⊢
  simp [World.setCell, Array.getElem?_modify, h]

/-- the cells of a struct result of three cells, set -/
theorem set_boxI (w w1 : World) (t : TypeId) (x y z x' y' z' : Value) (u : Up (w.alloc (.cells #[x, y, z] t)) w1) :
    (∃ w2, ((w1.setCell ⟨w.heap.size, 0, none⟩ x').setCell ⟨w.heap.size, 1, none⟩ y').setCell ⟨w.heap.size, 2, none⟩ z' = w2 ∧ BoxI w2 w.heap.size t x' y' z' ∧ Up w w2 ∧ Below w.heap.size w1 w2 ∧ (∀ b, b ≠ w.heap.size → w2.heap[b]? = w1.heap[b]?)) ∧
    BoxI w1 w.heap.size t x y z := by
  have hbx : BoxI w1 w.heap.size t x y z := BoxI.below (BoxI.new w _ _ _ _) u (by simp)
  have U1 := Up.after _ _ _ u
  have hb2 := hbx.set x' y' z'
  have hu1 : ∀ w0, Below w.heap.size w0 w1 → Below w.heap.size w0 (((w1.setCell ⟨w.heap.size, 0, none⟩ x').setCell ⟨w.heap.size, 1, none⟩ y').setCell ⟨w.heap.size, 2, none⟩ z') := fun w0 h0 => ((Below.setCell h0 (p := ⟨w.heap.size, 0, none⟩) (Nat.le_refl _) _).setCell (p := ⟨w.heap.size, 1, none⟩) (Nat.le_refl _) _).setCell (p := ⟨w.heap.size, 2, none⟩) (Nat.le_refl _) _
  refine ⟨⟨_, rfl, hb2, hu1 w U1, hu1 w1 (Below.refl _ _), fun b hb => ?_⟩, hbx⟩
  simp [World.setCell, Array.getElem?_modify, Ne.symm hb]

theorem identifier_any (x : Itm) (W : World) : Calls Try.prog 72 #[itV x] W fun e w' => e = .returned (idV (idOf x)) ∧ Up W w' := by
  have hv : idV (idOf x) = .agg #[.bool true, .int .i64 x.s, .int .i64 x.n] := rfl
  rw [hv]
  clear hv
  unfold itV
  generalize x.s = xs
  generalize x.n = xn
  generalize bs x.t = xt
  generalize x.r = xr
  go_enter Try.func72, Try.ntmps72
  go_wp2_with fail
  exact bodyPost_ret (v := .agg #[.bool true, .int .i64 xs, .int .i64 xn]) (by simp [results, Try.results72, go_sem]) rfl ⟨rfl, (Up.alloc _ _).trans (Up.alloc _ _)⟩

end Go.Proofs.Ytkghinpajogdhaa
