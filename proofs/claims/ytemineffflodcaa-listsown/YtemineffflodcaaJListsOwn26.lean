/-
  The texts TreeI, TreeJ, Print2, one behind the other; each says below what it holds and on what conditions.
-/
import Derived.Test.YtemineffflodcaaJListsOwn22
import Derived.Test.YtemineffflodcaaJListsOwn25
import Derived.Lib.SlBytesRow
import Derived.Test.YtemineffflodcaaJListsOwn16

/-
  What leafClash and Clash of package tree return. Conditions: as each says.
-/
namespace Go.Proofs.Ytemineffflodcaa
open Go.RowKit
open Go.Proofs
open WoolTree

theorem lvs_length_eq : ∀ (k : Nat) (A B : List Nat), A.length = B.length → (lvs TH k A).length = (lvs TH k B).length
  | 0, _, _, _ => rfl
  | k + 1, A, B, h => by
    rw [lvs, lvs, List.length_cons, List.length_cons, h]
    by_cases h1 : B.length ≤ 1
    · rw [if_pos h1, if_pos h1]
    · rw [if_neg h1, if_neg h1, lvs_length_eq k (ab TH A) (ab TH B) (by rw [ab_length, ab_length, h])]

theorem pck_pci (A B : List Nat) (h : A.length = B.length) : ∀ k, k ≤ (lvs TH 5 A).length → pck (lvs TH 5 A) (lvs TH 5 B) k = pci TH A B k
  | 0, _ => rfl
  | k + 1, hk => by
    have hB := lvs_length_eq 5 A B h
    have ih := pck_pci A B h k (by omega)
    have e1 : (lvs TH 5 A).getD k [] = it TH k A := by rw [List.getD_eq_getElem?_getD, List.getElem?_eq_getElem (by omega), lvs_get]; rfl
    have e2 : (lvs TH 5 B).getD k [] = it TH k B := by rw [List.getD_eq_getElem?_getD, List.getElem?_eq_getElem (by omega), lvs_get]; rfl
    rw [pck, pci, e1, e2, ih]
    cases pc (it TH k A) (it TH k B) <;> rfl

theorem it_short : ∀ (k : Nat) (A : List Nat), A.length ≤ 32 → (it TH k A).length ≤ 32
  | 0, _, h => h
  | k + 1, A, h => it_short k _ (by rw [ab_length]; omega)

theorem TH_lt32 (s : List UInt8) : TH s < 4294967296 := by have := TH_lt s; omega

theorem pairs_ok (A B : List Nat) (h : A.length = B.length) (h32 : A.length ≤ 32) (hA : ∀ x ∈ A, x < 4294967296) (hB : ∀ x ∈ B, x < 4294967296) (k : Nat) (hk : k < (lvs TH 5 A).length) :
    ((lvs TH 5 A).getD k []).length = ((lvs TH 5 B).getD k []).length ∧ ((lvs TH 5 A).getD k []).length ≤ 32 ∧ (∀ x ∈ (lvs TH 5 A).getD k [], x < 4294967296) ∧ ∀ x ∈ (lvs TH 5 B).getD k [], x < 4294967296 := by
  have hBl := lvs_length_eq 5 A B h
  have e1 : (lvs TH 5 A).getD k [] = it TH k A := by rw [List.getD_eq_getElem?_getD, List.getElem?_eq_getElem (by omega), lvs_get]; rfl
  have e2 : (lvs TH 5 B).getD k [] = it TH k B := by rw [List.getD_eq_getElem?_getD, List.getElem?_eq_getElem (by omega), lvs_get]; rfl
  rw [e1, e2]
  exact ⟨it_length_eq TH k A B h, it_short k A h32, it_bound TH _ TH_lt32 k A hA, it_bound TH _ TH_lt32 k B hB⟩

def LcRel (a b : List (List UInt8)) (n : Nat) (w : World) (i : Value) (wr : World) : Prop :=
  ∃ I : Nat, I < n ∧ i = .int .i64 (I : Int) ∧ fd a b = fd (a.drop I) (b.drop I) ∧ a.drop I ≠ b.drop I ∧ Up w wr

/-! ytemineffflodcaa# Clash -/

def clE (a b : List (List UInt8)) : Int := if cpE a b ≠ 0 then cpE a b else if ((a == b) || ((rtx TH a : Int) != (rtx TH b : Int))) = true then 4 else 0
def clV (a b : List (List UInt8)) : List UInt8 × List UInt8 := if clE a b = 0 then clash TH a b else ([], [])
def clR (a b : List (List UInt8)) : Value := .tuple #[.string (bs (clV a b).1), .string (bs (clV a b).2), .int .i64 (clE a b)]

end Go.Proofs.Ytemineffflodcaa

/-
  slices.Clone at texts; slices.IsSorted at rising ints. Conditions: as each says.
-/
namespace Go.Proofs.Ytemineffflodcaa
open Go.RowKit
open Go.Proofs
open WoolTree

/-- a slice of texts of the call's own -/
def OTxs (w : World) (base : Nat) (v : Value) (l : List (List UInt8)) : Prop := w.ownsRow base 9 1 v l.length (fl txC l)
theorem OTxs.txs {w : World} {base : Nat} {v : Value} {l : List (List UInt8)} (h : OTxs w base v l) : Txs w v l := Sl.of_own h
theorem OTxs.up {w w' : World} {base : Nat} {v : Value} {l : List (List UInt8)} (h : OTxs w base v l) (hu : Up w w') : OTxs w' base v l := own_upT h hu

theorem strInfoT : (Try.prog.info? 9).map (fun i => (i.zero, i.size, i.bytes)) = some (some (.string ⟨#[]⟩), 1, 16) := by kernel_rfl

def ClTPost (w : World) (l : List (List UInt8)) (e : Ending) (w' : World) : Prop := ∃ v', e = .returned v' ∧ OTxs w' w.heap.size v' l ∧ Up w w'

set_option maxRecDepth 100000 in
set_option maxHeartbeats 1000000 in
theorem cloneT_any (v : Value) (l : List (List UInt8)) (w : World) (h : Txs w v l) (hl : l.length * 16 ≤ 140737488351232) :
    Calls Try.prog 18 #[v] w (ClTPost w l) := by
  obtain ⟨i0, hi, hz0, hz1, hz2⟩ := info_parts strInfoT
  have HX := Lib.hid h
  obtain ⟨o, c, rfl, h3, h3'⟩ := h.slice
  have q22 : ∀ (w : World) (a : Option Addr) (n c n' c' : Nat), (binOp .eql 23 (.slice a n c) (.slice none n' c')).run Try.prog w = .ok (.bool a.isNone) w := fun w a n c n' c' => Lib.run_eql_slice_nil w _ _ a n c n' c' Try.underlying23
  cases o with
  | none =>
    have hn : l = [] := by
      by_cases e : l = []
      · exact e
      · obtain ⟨b, off, e2, _⟩ := h.at e
        cases e2
    subst hn
    clear h
    go_enter Try.func18, Try.ntmps18
    go_wp2
    go_ret
    exact ⟨_, rfl, World.ownsRow_nil _ _ _ _, Up.refl _⟩
  | some ad =>
    have hcl : Hid (∀ j u, (fl txC l)[j]? = some u → w.cell? (ad.add j) = some u) := by
      intro j u hj
      have hne : l.length ≠ 0 := by
        intro e
        have e2 := List.eq_nil_of_length_eq_zero e
        subst e2
        simp [fl] at hj
      obtain ⟨b, off, e, hc⟩ := Sl.cells (show Sl w 1 (.slice (some ad) l.length c) l.length (fl txC l) from HX.out) hne
      cases e
      rw [add_offT]
      exact hc j u hj
    have hlen := fl_length (f := txC) txC_len l
    clear h HX
    go_enter Try.func18, Try.ntmps18
    go_wp2_with (at_builtin; refine wpList_append_own _ rfl _ _ 23 rfl w.heap.size 9 i0 (.string ⟨#[]⟩) 1 16 Try.underlying23 hi hz0 hz1 hz2 rfl (by omega) _ _ _ rfl (World.ownsRow_made w #[] 0 (Nat.le_refl _) (Nat.zero_le _) (by simp)) ad l.length c (fl txC l) rfl ?qc1 ?qc2 ?qc3 ?qc4 ?qc5 ?qc6 ?_)
    case qc1 => exact hlen
    case qc2 =>
      intro j u hj
      exact Lib.cell?_alloc_some _ (hcl.out j u hj)
    case qc3 => exact fl_one txC_one l
    case qc4 => unfold maxLen; omega
    case qc5 => omega
    case qc6 => simp
    intro v' w1 hown hgrow hnil
    have HO : Hid (OTxs w1 w.heap.size v' l) := by
      show OTxs w1 w.heap.size v' l
      unfold OTxs
      simpa using hown
    have HU : Hid (Up w w1) := ((Below.refl _ w).alloc (Nat.le_refl _) _).grown hgrow (by simp) (by intro k hk; simp [Value.ownBlock] at hk; omega)
    clear hown hgrow hnil hcl hlen
    go_wp2
    go_ret
    exact ⟨v', rfl, HO.out, HU.out⟩

def SortTRel (n : Nat) (w : World) (i : Value) (wr : World) : Prop := ∃ K : Nat, K ≤ n ∧ i = .int .i64 ((K : Int) - 1) ∧ Up w wr


end Go.Proofs.Ytemineffflodcaa

/-
  What Join and Roll of package print return at wrong arguments, and what Roll returns at right ones. Conditions: the arguments are ints.
-/
namespace Go.Proofs.Ytemineffflodcaa
open Go.RowKit
open Go.Proofs

/-- what Roll answers -/
def restV (M P X N : Nat) : Nat := P ^^^ WoolMath.pmod (WoolMath.pw 256 N) M ^^^ WoolMath.pmod (WoolMath.mul X (WoolMath.pmod (WoolMath.pw 256 (N - 1)) M)) M
def rollV (M P X Y N : Nat) : Nat := WoolMath.pmod (WoolMath.mul (restV M P X N) 256) M ^^^ WoolMath.pmod Y M ^^^ WoolMath.pmod (WoolMath.pw 256 N) M

theorem xor30 (a b : Nat) (ha : a < 1073741824) (hb : b < 1073741824) : a ^^^ b < 1073741824 := Nat.xor_lt_two_pow (n := 30) ha hb

end Go.Proofs.Ytemineffflodcaa
