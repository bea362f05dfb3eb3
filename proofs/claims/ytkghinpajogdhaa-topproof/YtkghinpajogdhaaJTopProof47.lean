/-
  The texts TreeA, TreeB, one behind the other; each says below what it holds and on what conditions.
-/
import Derived.Test.YtkghinpajogdhaaJTopProof08
import Derived.Test.YtkghinpajogdhaaJTopProof27
import Derived.Test.YtkghinpajogdhaaJTopProof23
import Derived.BigQuiet
import Derived.Shelf.Abstract

/-
  The small functions of package tree: beside, right, paired, last, leaf, fourBytes, pair, hash, tooLong, climb. Conditions: as each says.
-/
namespace Go.Proofs.Ytkghinpajogdhaa
open Go.RowKit
open Go.Proofs
open WoolTree

/-- the hash -/
def TH (s : List UInt8) : Nat := fp 1073741907 s
theorem TH_lt (s : List UInt8) : TH s < 1073741824 := fp_le 1073741907 (by omega) (by omega) s

theorem bes_xor : ∀ i, i < 64 → i ^^^ 1 = bes i := by decide

set_option maxRecDepth 100000 in
theorem beside_any (i : Nat) (w : World) (h : i < 64) : Calls Try.prog 25 #[.int .i64 (i : Int)] w fun e w' => e = .returned (.int .i64 ((bes i : Nat) : Int)) ∧ w = w' := by
  have hx := i64_xor_nat i 1 (by omega) (by omega)
  rw [bes_xor i h, show ((1 : Nat) : Int) = 1 from rfl] at hx
  have hb : bes i ≤ 64 := by unfold bes; split <;> omega
  generalize bes i = b at *
  go_enter Try.func25, Try.ntmps25
  go_wp2_with fail
  go_ret
  exact ⟨by rw [← hx]; rfl, rfl⟩

set_option maxRecDepth 100000 in
theorem right_any (i : Nat) (w : World) (h : i < 64) : Calls Try.prog 24 #[.int .i64 (i : Int)] w fun e w' => e = .returned (.bool (i % 2 == 1)) ∧ w = w' := by
  have he : ((i : Int) % 2 == 1) = (i % 2 == 1) := by
    rw [Bool.eq_iff_iff, beq_iff_eq, beq_iff_eq]; omega
  go_enter Try.func24, Try.ntmps24
  go_wp2_with fail
  go_ret
  exact ⟨by rw [← he]; rfl, rfl⟩

/-- a text of bytes in a block -/
theorem conv_cellsT (l : List UInt8) (b c : Nat) (v : World) (h : ∀ j x, l[j]? = some x → v.cell? ⟨b, j, none⟩ = some (.int .u8 (x.toNat : Int))) :
    (convert 130 9 (.slice (some ⟨b, 0, none⟩) l.length c)).run Try.prog v = .ok (.string (bs l)) v := by
  refine run_convert_bytes_back (P := Try.prog) _ 130 9 5 _ c l Try.underlying130 Try.underlying5 Try.underlying9 ?_
  intro j hj
  rw [← h j l[j] (List.getElem?_eq_getElem hj)]
  congr 1
  unfold Addr.add
  split
  · rename_i e; subst e; rfl
  · simp

theorem conv_four (n : Nat) (w : World) (hn : n < 4294967296) : (convert 130 9 (.slice (some ⟨w.heap.size, 0, none⟩) 4 4)).run Try.prog (w.alloc (.cells #[.int .u8 ((n : Int) / 16777216), .int .u8 ((n : Int) / 65536 % 256), .int .u8 ((n : Int) / 256 % 256), .int .u8 ((n : Int) % 256)] 5)) = .ok (.string (bs (b4 n))) (w.alloc (.cells #[.int .u8 ((n : Int) / 16777216), .int .u8 ((n : Int) / 65536 % 256), .int .u8 ((n : Int) / 256 % 256), .int .u8 ((n : Int) % 256)] 5)) :=
  conv_cellsT (b4 n) w.heap.size 4 (w.alloc (.cells #[.int .u8 ((n : Int) / 16777216), .int .u8 ((n : Int) / 65536 % 256), .int .u8 ((n : Int) / 256 % 256), .int .u8 ((n : Int) % 256)] 5)) (by
    intro j x hx
    unfold b4 at hx
    match j with
    | 0 => refine (World.cell?_alloc_mark _ _ _ _ 0).trans ?_; simp at hx ⊢; subst hx; simp; omega
    | 1 => refine (World.cell?_alloc_mark _ _ _ _ 1).trans ?_; simp at hx ⊢; subst hx; simp
    | 2 => refine (World.cell?_alloc_mark _ _ _ _ 2).trans ?_; simp at hx ⊢; subst hx; simp
    | 3 => refine (World.cell?_alloc_mark _ _ _ _ 3).trans ?_; simp at hx ⊢; subst hx; simp
    | j + 4 => simp at hx)

set_option maxRecDepth 100000 in
theorem four_bytes (n : Nat) (w : World) (h : n < 4294967296) : Calls Try.prog 79 #[.int .i64 (n : Int)] w fun e w' => e = .returned (.string (bs (b4 n))) ∧ Up w w' := by
  have hconv := conv_four n w h
  go_enter Try.func79, Try.ntmps79
  go_wp2_with fail
  go_ret
  exact ⟨rfl, Up.alloc _ _⟩

set_option maxRecDepth 100000 in
theorem leaf_any (t : List UInt8) (w : World) (h : t.length ≤ 1000) : Calls Try.prog 28 #[.string (bs t)] w fun e w' => e = .returned (.string (bs (lf t))) ∧ w = w' := by
  have ha : ∀ v : World, (Op.stringOp .add ⟨#[108]⟩ (bs t)).run Try.prog v = .ok (.string (bs (lf t))) v := add_bs [108] t (by simp; omega)
  go_enter Try.func28, Try.ntmps28
  go_wp2_with fail
  go_ret
  exact ⟨rfl, rfl⟩

set_option maxRecDepth 100000 in
theorem tooLong_any (t : List UInt8) (w : World) : Calls Try.prog 26 #[.string (bs t)] w fun e w' => e = .returned (.bool (decide (64 < t.length))) ∧ w = w' := by
  have hz := bs_size t
  go_enter Try.func26, Try.ntmps26
  go_wp2_with fail
  go_ret
  refine ⟨?_, rfl⟩
  show Ending.returned (.bool (decide (64 < (t.length : Int)))) = _
  rw [show decide (64 < (t.length : Int)) = decide (64 < t.length) by rw [decide_eq_decide]; omega]

set_option maxRecDepth 100000 in
theorem hash_any (t : List UInt8) (w : World) (h : t.length ≤ 600) : Calls Try.prog 27 #[.string (bs t)] w fun e w' => e = .returned (.int .i64 ((TH t : Nat) : Int)) ∧ Up w w' := by
  have ho := of_ok 1073741907 (bs t) w (by omega) (by omega) (by rw [bs_size]; exact h)
  rw [bs_list] at ho
  change Calls Try.prog 51 #[.int .i64 ((1073741907 : Nat) : Int), .string (bs t)] w (fun e w' => e = .returned (.tuple #[.int .i64 ((TH t : Nat) : Int), .int .i64 0]) ∧ Up w w') at ho
  generalize TH t = N at *
  go_enter Try.func27, Try.ntmps27
  go_wp2_with fail
  refine ho.mono ?_
  rintro e w1 ⟨rfl, u1⟩
  go_wp2_with fail
  go_ret
  exact ⟨rfl, u1⟩

theorem pr_split (a b : Nat) : pr a b = [110] ++ b4 a ++ b4 b := by unfold pr; simp

set_option maxRecDepth 100000 in
theorem pair_any (a b : Nat) (w : World) (ha : a < 4294967296) (hb : b < 4294967296) : Calls Try.prog 52 #[.int .i64 (a : Int), .int .i64 (b : Int)] w fun e w' => e = .returned (.string (bs (pr a b))) ∧ Up w w' := by
  have h1 : ∀ v : World, (Op.stringOp .add ⟨#[110]⟩ (bs (b4 a))).run Try.prog v = .ok (.string (bs ([110] ++ b4 a))) v := add_bs [110] (b4 a) (by rw [b4_length]; simp)
  have h2 := add_bs ([110] ++ b4 a) (b4 b) (by rw [List.length_append, b4_length, b4_length]; simp)
  rw [pr_split]
  go_enter Try.func52, Try.ntmps52
  go_wp2_with fail
  refine (four_bytes a _ ha).mono ?_
  rintro e w1 ⟨rfl, u1⟩
  go_wp2_with fail
  refine (four_bytes b _ hb).mono ?_
  rintro e w2 ⟨rfl, u2⟩
  go_wp2_with fail
  go_ret
  exact ⟨rfl, u1.trans u2⟩

set_option maxRecDepth 100000 in
theorem paired_any (i n : Nat) (w : World) (h : i < 64) : Calls Try.prog 23 #[.int .i64 (i : Int), .int .i64 (n : Int)] w fun e w' => e = .returned (.bool (decide (bes i < n))) ∧ w = w' := by
  have hb : decide ((bes i : Int) < (n : Int)) = decide (bes i < n) := by rw [decide_eq_decide]; omega
  have HB := Lib.hid (fun W => beside_any i W h)
  generalize bes i = b at *
  go_enter Try.func23, Try.ntmps23
  go_wp2_with fail
  refine (HB.out _).mono ?_
  rintro e w1 ⟨rfl, rfl⟩
  go_wp2_with fail
  go_ret
  exact ⟨by rw [← hb]; rfl, rfl⟩

set_option maxRecDepth 100000 in
theorem climb_any (x : Nat) (s : Bool × Int) (w : World) (hx : x < 4294967296) (h0 : 0 ≤ s.2) (h1 : s.2 ≤ 2147483647) : Calls Try.prog 30 #[.int .i64 (x : Int), .agg #[.bool s.1, .int .i64 s.2]] w fun e w' => e = .returned (.int .i64 ((clm TH x s : Nat) : Int)) ∧ Up w w' := by
  obtain ⟨b, y⟩ := s
  simp only at h0 h1 ⊢
  obtain ⟨y, rfl⟩ := Int.eq_ofNat_of_zero_le h0
  rw [clm_nx]
  have hl := nx_length x (b, (y : Int))
  cases b with
  | true =>
    have e : nx x (true, (y : Int)) = pr y x := by unfold nx; simp
    rw [e] at hl ⊢
    have HH := Lib.hid (fun W => hash_any (pr y x) W (by omega))
    have HP := Lib.hid (fun W => pair_any y x W (by omega) hx)
    generalize pr y x = P at *
    generalize TH P = N at *
    go_enter Try.func30, Try.ntmps30
    go_wp2_with fail
    refine (HP.out _).mono ?_
    rintro e w1 ⟨rfl, u1⟩
    go_wp2_with fail
    refine (HH.out _).mono ?_
    rintro e w2 ⟨rfl, u2⟩
    go_wp2_with fail
    go_ret
    exact ⟨rfl, (Up.alloc _ _).trans (u1.trans u2)⟩
  | false =>
    have e : nx x (false, (y : Int)) = pr x y := by unfold nx; simp
    rw [e] at hl ⊢
    have HH := Lib.hid (fun W => hash_any (pr x y) W (by omega))
    have HP := Lib.hid (fun W => pair_any x y W hx (by omega))
    generalize pr x y = P at *
    generalize TH P = N at *
    go_enter Try.func30, Try.ntmps30
    go_wp2_with fail
    refine (HP.out _).mono ?_
    rintro e w1 ⟨rfl, u1⟩
    go_wp2_with fail
    refine (HH.out _).mono ?_
    rintro e w2 ⟨rfl, u2⟩
    go_wp2_with fail
    go_ret
    exact ⟨rfl, (Up.alloc _ _).trans (u1.trans u2)⟩

set_option maxRecDepth 100000 in
theorem fits_any (s : Bool × Int) (i : Nat) (w : World) (h : i < 64) : Calls Try.prog 29 #[.agg #[.bool s.1, .int .i64 s.2], .int .i64 (i : Int)] w fun e w' => e = .returned (.bool (fit s i)) ∧ Up w w' := by
  obtain ⟨b, y⟩ := s
  have HR := Lib.hid (fun W => right_any i W h)
  unfold fit
  simp only
  generalize (i % 2 == 1) = r at *
  obtain ⟨q, hq⟩ : ∃ q, (b == r) = q := ⟨_, rfl⟩
  obtain ⟨d1, hd1⟩ : ∃ q, decide (0 ≤ y) = q := ⟨_, rfl⟩
  obtain ⟨d2, hd2⟩ : ∃ q, decide (y ≤ 2147483647) = q := ⟨_, rfl⟩
  have hge : decide (y ≥ 0) = d1 := hd1
  rw [hq, hd1, hd2]
  cases q <;> cases d1 <;> cases d2
  all_goals
    go_enter Try.func29, Try.ntmps29
    go_wp2_with fail
    go_quiet ((go_at_call 24; exact Calls.quiet_of_same ((HR.out _).mono fun _ _ h => ⟨h.1, h.2.symm⟩)))
    go_wp2_with fail
    go_ret
    exact ⟨rfl, (Up.alloc _ _).trans (Up.drewN _ _)⟩

end Go.Proofs.Ytkghinpajogdhaa

/-
  What slices.IndexFunc and ContainsFunc (of texts) and tree.Check return. Conditions: as each says.
-/
namespace Go.Proofs.Ytkghinpajogdhaa
open Go.RowKit
open Go.Proofs
open WoolTree

/-- what is wrong with a list of texts -/
def chkT (l : List (List UInt8)) : Int := if l.length = 0 then 4 else if (decide (32 < l.length) || l.any fun t => decide (64 < t.length)) = true then 2 else 0

theorem chkT_ok {l : List (List UInt8)} (h : chkT l = 0) : 0 < l.length ∧ l.length ≤ 32 ∧ ∀ t ∈ l, t.length ≤ 64 := by
  unfold chkT at h
  split at h
  · cases h
  · split at h
    · cases h
    · rename_i h1 h2
      simp only [Bool.or_eq_true, decide_eq_true_eq, List.any_eq_true, not_or, not_exists, not_and] at h2
      exact ⟨by omega, by omega, fun t ht => by have := h2.2 t ht; omega⟩

theorem chkT_cases (l : List (List UInt8)) : chkT l = 0 ∨ chkT l = 2 ∨ chkT l = 4 := by
  unfold chkT; split
  · simp
  · split <;> simp

def idxT (p : List UInt8 → Bool) (l : List (List UInt8)) : Int := match l.findIdx? p with | some i => (i : Int) | none => -1

theorem idxT_any (p : List UInt8 → Bool) (l : List (List UInt8)) : decide (0 ≤ idxT p l) = l.any p := by
  unfold idxT
  cases h : l.findIdx? p with
  | none =>
    rw [List.findIdx?_eq_none_iff] at h
    have : l.any p = false := by rw [List.any_eq_false]; intro x hx; rw [h x hx]; simp
    rw [this]; rfl
  | some i =>
    rw [List.findIdx?_eq_some_iff_getElem] at h
    obtain ⟨hi, hp, _⟩ := h
    have : l.any p = true := List.any_eq_true.2 ⟨_, List.getElem_mem hi, hp⟩
    rw [this]; simp

def IxTRel (p : List UInt8 → Bool) (l : List (List UInt8)) (w : World) (i : Value) (wr : World) : Prop :=
  ∃ k : Nat, k ≤ l.length ∧ i = .int .i64 k ∧ Up w wr ∧ ∀ j (h : j < l.length), j < k → p l[j] = false

set_option maxRecDepth 100000 in
set_option maxHeartbeats 400000 in
theorem indexT (v : Value) (l : List (List UInt8)) (w : World) (g : Nat) (p : List UInt8 → Bool) (eg : ∀ args w, (callFunc g args).run Try.prog w = .ok (.enter g args) w) (h : Txs w v l)
    (hp : ∀ W t, Calls Try.prog g #[.string (bs t)] W fun e w' => e = .returned (.bool (p t)) ∧ Up W w') :
    Calls Try.prog 75 #[v, .func (.func g) #[] #[]] w fun e w' => e = .returned (.int .i64 (idxT p l)) ∧ Up w w' := by
  obtain ⟨o, c, rfl, h2, h3⟩ := h.slice
  unfold maxLen at h3
  have H4 := Lib.hid h
  have HP := Lib.hid hp
  clear h hp
  obtain ⟨R, hR⟩ : ∃ R, idxT p l = R := ⟨_, rfl⟩
  rw [hR]
  have HR := Lib.hid hR
  clear hR
  go_enter Try.func75, Try.ntmps75
  go_wp2_with fail
  go_loopw [5, 8] (fun _ i wr => IxTRel p l w i wr) (fun _ i _ => l.length - (intOf i).toNat)
  case atStart => exact ⟨0, Nat.zero_le _, rfl, Up.refl w, fun j _ hj => by omega⟩
  case round =>
    obtain ⟨k, hk, rfl, hu, hno⟩ := hrel
    by_cases hlt : k < l.length
    · obtain ⟨b, off, rfl, h5⟩ := (H4.out.up hu).at (fun e => by rw [e] at hlt; simp at hlt)
      have a1 := h5 k hlt
      have hcall := HP.out wr l[k]
      have HU := Lib.hid hu
      have HN := Lib.hid hno
      have d1 : decide (k < l.length) = true := decide_eq_true hlt
      obtain ⟨P, hP⟩ : ∃ P, p l[k] = P := ⟨_, rfl⟩
      rw [hP] at hcall
      have HPP := Lib.hid hP
      generalize l[k] = xt at a1 hcall
      clear h5 hu hno hP
      cases P with
      | true =>
        go_wp2_with (go_at_fn g; refine hcall.mono ?_; rintro e w1 ⟨rfl, u1⟩)
        go_ret
        refine ⟨?_, HU.out.trans u1⟩
        rw [← HR.out]
        unfold idxT
        rw [show l.findIdx? p = some k from List.findIdx?_eq_some_iff_getElem.2 ⟨hlt, HPP.out, fun j hj => by rw [HN.out j (by omega) hj]; simp⟩]
        rfl
      | false =>
        go_wp2_with (go_at_fn g; refine hcall.mono ?_; rintro e w1 ⟨rfl, u1⟩)
        go_roundw
        case rel =>
          refine ⟨k + 1, by omega, by go_num, HU.out.trans u1, fun j hj hjk => ?_⟩
          by_cases e : j = k
          · subst e; exact HPP.out
          · exact HN.out j hj (by omega)
        case measure => simp only [intOf]; omega
    · have d1 : decide (k < l.length) = false := decide_eq_false hlt
      have HN := Lib.hid hno
      clear hno
      go_wp2_with fail
      go_ret
      refine ⟨?_, hu⟩
      rw [← HR.out]
      unfold idxT
      rw [show l.findIdx? p = none from List.findIdx?_eq_none_iff.2 fun x hx => by obtain ⟨i, hi, rfl⟩ := List.getElem_of_mem hx; exact HN.out i hi (by omega)]
      rfl

set_option maxRecDepth 100000 in
theorem containsT (v : Value) (l : List (List UInt8)) (w : World) (g : Nat) (p : List UInt8 → Bool) (eg : ∀ args w, (callFunc g args).run Try.prog w = .ok (.enter g args) w) (h : Txs w v l)
    (hp : ∀ W t, Calls Try.prog g #[.string (bs t)] W fun e w' => e = .returned (.bool (p t)) ∧ Up W w') :
    Calls Try.prog 49 #[v, .func (.func g) #[] #[]] w fun e w' => e = .returned (.bool (l.any p)) ∧ Up w w' := by
  obtain ⟨o, c, hv, hc⟩ := h.slice
  rw [← idxT_any]
  have hcall := indexT v l w g p eg h hp
  generalize idxT p l = R at hcall ⊢
  subst hv
  clear h hp eg hc
  go_enter Try.func49, Try.ntmps49
  go_wp2_with fail
  refine hcall.mono ?_
  rintro e w1 ⟨rfl, u1⟩
  go_wp2_with fail
  go_ret
  exact ⟨rfl, u1⟩

theorem eg_long : ∀ args w, (callFunc 26 args).run Try.prog w = .ok (.enter 26 args) w := enters_of Try.func26 (by kernel_rfl) rfl

set_option maxRecDepth 100000 in
theorem checkT_any (v : Value) (l : List (List UInt8)) (w : World) (h : Txs w v l) :
    Calls Try.prog 20 #[v] w fun e w' => e = .returned (.int .i64 (chkT l)) ∧ Up w w' := by
  obtain ⟨o, c, rfl, hc⟩ := h.slice
  have HC := Lib.hid (containsT _ l w 26 (fun t => decide (64 < t.length)) eg_long h (fun W t => (tooLong_any t W).mono fun _ _ h => ⟨h.1, Up.of_eq h.2⟩))
  obtain ⟨R, hR⟩ : ∃ R, chkT l = R := ⟨_, rfl⟩
  rw [hR]
  unfold chkT at hR
  generalize (l.any fun t => decide (64 < t.length)) = A at *
  generalize l.length = n at *
  clear h hc
  by_cases h0 : n = 0
  · subst h0
    rw [if_pos rfl] at hR
    subst hR
    go_enter Try.func20, Try.ntmps20
    go_wp2_with fail
    go_ret
    exact ⟨rfl, Up.refl _⟩
  · rw [if_neg h0] at hR
    have d0 : ((n : Int) == 0) = false := by rw [beq_eq_false_iff_ne]; omega
    by_cases h1 : 32 < n
    · rw [if_pos (by simp [h1])] at hR
      subst hR
      have d1 : decide ((n : Int) > 32) = true := decide_eq_true (by omega)
      have d2 : decide (32 < (n : Int)) = true := decide_eq_true (by omega)
      clear h0
      go_enter Try.func20, Try.ntmps20
      go_wp2_with fail
      go_ret
      exact ⟨rfl, Up.refl _⟩
    · have d1 : decide ((n : Int) > 32) = false := decide_eq_false (by omega)
      have d2 : decide (32 < (n : Int)) = false := decide_eq_false (by omega)
      rw [show decide (32 < n) = false from decide_eq_false h1, Bool.false_or] at hR
      clear h0
      cases A with
      | true =>
        rw [if_pos rfl] at hR
        subst hR
        go_enter Try.func20, Try.ntmps20
        go_wp2_with fail
        refine HC.out.mono ?_
        rintro e w1 ⟨rfl, u1⟩
        go_wp2_with fail
        go_ret
        exact ⟨rfl, u1⟩
      | false =>
        rw [if_neg (by simp)] at hR
        subst hR
        go_enter Try.func20, Try.ntmps20
        go_wp2_with fail
        refine HC.out.mono ?_
        rintro e w1 ⟨rfl, u1⟩
        go_wp2_with fail
        go_ret
        exact ⟨rfl, u1⟩

end Go.Proofs.Ytkghinpajogdhaa
