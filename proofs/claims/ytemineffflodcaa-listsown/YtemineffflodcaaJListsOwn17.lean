/-
  The small functions of package tree: beside, right, paired, last, leaf, fourBytes, pair, hash, tooLong, climb. Conditions: as each says.
-/
import Derived.Test.YtemineffflodcaaJListsOwn14
import Derived.Test.YtemineffflodcaaJListsOwn15
import Derived.Test.YtemineffflodcaaJListsOwn16
import Derived.BigQuiet
namespace Go.Proofs.Ytemineffflodcaa
open Go.RowKit
open Go.Proofs
open WoolTree

/-- the hash -/
def TH (s : List UInt8) : Nat := fp 1073741907 s
theorem TH_lt (s : List UInt8) : TH s < 1073741824 := fp_le 1073741907 (by omega) (by omega) s

theorem bes_xor : ∀ i, i < 64 → i ^^^ 1 = bes i := by decide

set_option maxRecDepth 100000 in
theorem beside_any (i : Nat) (w : World) (h : i < 64) : Calls Try.prog 40 #[.int .i64 (i : Int)] w fun e w' => e = .returned (.int .i64 ((bes i : Nat) : Int)) ∧ w = w' := by
  have hx := i64_xor_nat i 1 (by omega) (by omega)
  rw [bes_xor i h, show ((1 : Nat) : Int) = 1 from rfl] at hx
  have hb : bes i ≤ 64 := by unfold bes; split <;> omega
  generalize bes i = b at *
  go_enter Try.func40, Try.ntmps40
  go_wp2_with fail
  go_ret
  exact ⟨by rw [← hx]; rfl, rfl⟩

set_option maxRecDepth 100000 in
theorem right_any (i : Nat) (w : World) (h : i < 64) : Calls Try.prog 39 #[.int .i64 (i : Int)] w fun e w' => e = .returned (.bool (i % 2 == 1)) ∧ w = w' := by
  have he : ((i : Int) % 2 == 1) = (i % 2 == 1) := by
    rw [Bool.eq_iff_iff, beq_iff_eq, beq_iff_eq]; omega
  go_enter Try.func39, Try.ntmps39
  go_wp2_with fail
  go_ret
  exact ⟨by rw [← he]; rfl, rfl⟩

/-- a text of bytes in a block -/
theorem conv_cellsT (l : List UInt8) (b c : Nat) (v : World) (h : ∀ j x, l[j]? = some x → v.cell? ⟨b, j, none⟩ = some (.int .u8 (x.toNat : Int))) :
    (convert 94 9 (.slice (some ⟨b, 0, none⟩) l.length c)).run Try.prog v = .ok (.string (bs l)) v := by
  refine run_convert_bytes_back (P := Try.prog) _ 94 9 5 _ c l Try.underlying94 Try.underlying5 Try.underlying9 ?_
  intro j hj
  rw [← h j l[j] (List.getElem?_eq_getElem hj)]
  congr 1
  unfold Addr.add
  split
  · rename_i e; subst e; rfl
  · simp

theorem conv_four (n : Nat) (w : World) (hn : n < 4294967296) : (convert 94 9 (.slice (some ⟨w.heap.size, 0, none⟩) 4 4)).run Try.prog (w.alloc (.cells #[.int .u8 ((n : Int) / 16777216), .int .u8 ((n : Int) / 65536 % 256), .int .u8 ((n : Int) / 256 % 256), .int .u8 ((n : Int) % 256)] 5)) = .ok (.string (bs (b4 n))) (w.alloc (.cells #[.int .u8 ((n : Int) / 16777216), .int .u8 ((n : Int) / 65536 % 256), .int .u8 ((n : Int) / 256 % 256), .int .u8 ((n : Int) % 256)] 5)) :=
  conv_cellsT (b4 n) w.heap.size 4 (w.alloc (.cells #[.int .u8 ((n : Int) / 16777216), .int .u8 ((n : Int) / 65536 % 256), .int .u8 ((n : Int) / 256 % 256), .int .u8 ((n : Int) % 256)] 5)) (by
    intro j x hx
    unfold b4 at hx
    match j with
    | 0 => refine (World.cell?_alloc_mark _ _ _ _ 0).trans ?_; simp at hx ⊢; subst hx; simp; omega
    | 1 => refine (World.cell?_alloc_mark _ _ _ _ 1).trans ?_; simp at hx ⊢; subst hx; simp
    | 2 => refine (World.cell?_alloc_mark _ _ _ _ 2).trans ?_; simp at hx ⊢; subst hx; simp
    | 3 => refine (World.cell?_alloc_mark _ _ _ _ 3).trans ?_; simp at hx ⊢; subst hx; simp
    | j + 4 => simp at hx)

set_option maxRecDepth 100000 in
theorem four_bytes (n : Nat) (w : World) (h : n < 4294967296) : Calls Try.prog 68 #[.int .i64 (n : Int)] w fun e w' => e = .returned (.string (bs (b4 n))) ∧ Up w w' := by
  have hconv := conv_four n w h
  go_enter Try.func68, Try.ntmps68
  go_wp2_with fail
  go_ret
  exact ⟨rfl, Up.alloc _ _⟩

set_option maxRecDepth 100000 in
theorem leaf_any (t : List UInt8) (w : World) (h : t.length ≤ 1000) : Calls Try.prog 54 #[.string (bs t)] w fun e w' => e = .returned (.string (bs (lf t))) ∧ w = w' := by
  have ha : ∀ v : World, (Op.stringOp .add ⟨#[108]⟩ (bs t)).run Try.prog v = .ok (.string (bs (lf t))) v := add_bs [108] t (by simp; omega)
  go_enter Try.func54, Try.ntmps54
  go_wp2_with fail
  go_ret
  exact ⟨rfl, rfl⟩

set_option maxRecDepth 100000 in
theorem tooLong_any (t : List UInt8) (w : World) : Calls Try.prog 52 #[.string (bs t)] w fun e w' => e = .returned (.bool (decide (64 < t.length))) ∧ w = w' := by
  have hz := bs_size t
  go_enter Try.func52, Try.ntmps52
  go_wp2_with fail
  go_ret
  refine ⟨?_, rfl⟩
  show Ending.returned (.bool (decide (64 < (t.length : Int)))) = _
  rw [show decide (64 < (t.length : Int)) = decide (64 < t.length) by rw [decide_eq_decide]; omega]

set_option maxRecDepth 100000 in
theorem hash_any (t : List UInt8) (w : World) (h : t.length ≤ 600) : Calls Try.prog 53 #[.string (bs t)] w fun e w' => e = .returned (.int .i64 ((TH t : Nat) : Int)) ∧ Up w w' := by
  have ho := of_ok 1073741907 (bs t) w (by omega) (by omega) (by rw [bs_size]; exact h)
  rw [bs_list] at ho
  change Calls Try.prog 59 #[.int .i64 ((1073741907 : Nat) : Int), .string (bs t)] w (fun e w' => e = .returned (.tuple #[.int .i64 ((TH t : Nat) : Int), .int .i64 0]) ∧ Up w w') at ho
  generalize TH t = N at *
  go_enter Try.func53, Try.ntmps53
  go_wp2_with fail
  refine ho.mono ?_
  rintro e w1 ⟨rfl, u1⟩
  go_wp2_with fail
  go_ret
  exact ⟨rfl, u1⟩

theorem pr_split (a b : Nat) : pr a b = [110] ++ b4 a ++ b4 b := by unfold pr; simp

set_option maxRecDepth 100000 in
theorem pair_any (a b : Nat) (w : World) (ha : a < 4294967296) (hb : b < 4294967296) : Calls Try.prog 61 #[.int .i64 (a : Int), .int .i64 (b : Int)] w fun e w' => e = .returned (.string (bs (pr a b))) ∧ Up w w' := by
  have h1 : ∀ v : World, (Op.stringOp .add ⟨#[110]⟩ (bs (b4 a))).run Try.prog v = .ok (.string (bs ([110] ++ b4 a))) v := add_bs [110] (b4 a) (by rw [b4_length]; simp)
  have h2 := add_bs ([110] ++ b4 a) (b4 b) (by rw [List.length_append, b4_length, b4_length]; simp)
  rw [pr_split]
  go_enter Try.func61, Try.ntmps61
  go_wp2_with fail
  refine (four_bytes a _ ha).mono ?_
  rintro e w1 ⟨rfl, u1⟩
  go_wp2_with fail
  refine (four_bytes b _ hb).mono ?_
  rintro e w2 ⟨rfl, u2⟩
  go_wp2_with fail
  go_ret
  exact ⟨rfl, u1.trans u2⟩

set_option maxRecDepth 100000 in
theorem paired_any (i n : Nat) (w : World) (h : i < 64) : Calls Try.prog 38 #[.int .i64 (i : Int), .int .i64 (n : Int)] w fun e w' => e = .returned (.bool (decide (bes i < n))) ∧ w = w' := by
  have hb : decide ((bes i : Int) < (n : Int)) = decide (bes i < n) := by rw [decide_eq_decide]; omega
  have HB := Lib.hid (fun W => beside_any i W h)
  generalize bes i = b at *
  go_enter Try.func38, Try.ntmps38
  go_wp2_with fail
  refine (HB.out _).mono ?_
  rintro e w1 ⟨rfl, rfl⟩
  go_wp2_with fail
  go_ret
  exact ⟨by rw [← hb]; rfl, rfl⟩

end Go.Proofs.Ytemineffflodcaa
