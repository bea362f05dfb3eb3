/-
  The texts LogC, Frame3, one behind the other; each says below what it holds and on what conditions.
-/
import Derived.Test.YtkkecgamaahniaaGreatJB41
import Derived.Test.YtkkecgamaahniaaGreatJB43
import Derived.Test.YtkkecgamaahniaaGreatJB16
import Derived.Deep.RegionHeld3
import Derived.BigRegion

/-
  What package log's Log returns. Conditions: a slice of deeds that reads as deeds.
-/
namespace Go.Proofs.YtkkecgamaahniaaGreat
open Go.RowKit
open Go.Proofs
open WoolVol

/-- the first error of deeds -/
def logE : List Opn → Int
  | [] => 0
  | o :: r => if chkO o ≠ 0 then chkO o else logE r

/-- what Log answers -/
def logV (l : List Opn) : List UInt8 × Int := if 200 < l.length then ([], 2) else if logE l ≠ 0 then ([], logE l) else (logG (frm 1) l, 0)

theorem logE_at : ∀ (l : List Opn) (k : Nat) (h : k < l.length), (∀ o ∈ l.take k, chkO o = 0) → chkO l[k] ≠ 0 → logE l = chkO l[k]
  | o :: r, 0, _, _, h2 => by
    have h3 : chkO o ≠ 0 := h2
    show (if chkO o ≠ 0 then chkO o else logE r) = chkO o
    rw [if_pos h3]
  | o :: r, k + 1, h, h1, h2 => by
    have h0 : chkO o = 0 := h1 o (by simp)
    show (if chkO o ≠ 0 then chkO o else logE r) = _
    rw [if_neg (by simp [h0])]
    exact logE_at r k (by simpa using h) (fun x hx => h1 x (by simp [hx])) h2

theorem logE_ok : ∀ (l : List Opn), (∀ o ∈ l, chkO o = 0) → logE l = 0
  | [], _ => rfl
  | o :: r, h => by
    show (if chkO o ≠ 0 then chkO o else logE r) = 0
    rw [if_neg (by simp [h o (by simp)])]
    exact logE_ok r (fun x hx => h x (by simp [hx]))

theorem logV_ok {l : List Opn} (h : ∀ o ∈ l, chkO o = 0) (hl : l.length ≤ 200) : logV l = (logG (frm 1) l, 0) := by
  unfold logV
  rw [if_neg (by omega), if_neg (by simp [logE_ok l h])]

theorem logG_len : ∀ (l : List Opn), (∀ o ∈ l, chkO o = 0) → (logG (frm 1) l).length ≤ l.length * 100
  | [], _ => by simp [logG_nil]
  | o :: r, h => by
    have h1 := encO_len (h o (by simp))
    have h2 := logG_len r (fun x hx => h x (by simp [hx]))
    rw [logG_cons, List.length_append, frm_length, List.length_cons]
    omega

theorem logG_take (l : List Opn) (k : Nat) (h : k < l.length) : logG (frm 1) (l.take (k + 1)) = logG (frm 1) (l.take k) ++ frm 1 (encO l[k]) := by
  rw [List.take_succ_eq_append_getElem h, logG_append, logG_cons, logG_nil, List.append_nil]

def LogLoop (l : List Opn) (w : World) (i : Value) (wr : World) : Prop :=
  ∃ k : Nat, k ≤ l.length ∧ i = .int .i64 (k : Int) ∧ (∀ o ∈ l.take k, chkO o = 0) ∧ Bld wr w.heap.size w.heap.size (logG (frm 1) (l.take k)) ∧ Up w wr

set_option maxRecDepth 100000 in
set_option maxHeartbeats 2000000 in
theorem log_any (v : Value) (l : List Opn) (w : World) (h : Ops w v l) : Calls Tryz.prog 7 #[v] w fun e w' => e = .returned (.tuple #[.string (bs (logV l).1), .int .i64 (logV l).2]) ∧ Up w w' := by
  have HOP := Lib.hid h
  obtain ⟨o, c, rfl, p1, p2⟩ := h.slice
  unfold maxLen at p2
  obtain ⟨RS, hRS⟩ : ∃ RS : Value, .tuple #[.string (bs (logV l).1), .int .i64 (logV l).2] = RS := ⟨_, rfl⟩
  rw [hRS]
  have HRS := Lib.hid hRS
  obtain ⟨n, hn⟩ : ∃ n, l.length = n := ⟨_, rfl⟩
  rw [hn] at p1 HOP ⊢
  have HN := Lib.hid hn
  clear hn h hRS
  have e0 : (⟨#[]⟩ : ByteArray) = bs [] := rfl
  by_cases hbig : 200 < n
  · have HV : Hid (.tuple #[.string ⟨#[]⟩, .int .i64 2] = RS) := by
      have h9 := HRS.out
      unfold logV at h9
      rw [if_pos (by rw [HN.out]; exact hbig)] at h9
      exact h9
    have d1 : decide ((n : Int) > 200) = true := decide_eq_true (by omega)
    have d2 : decide (200 < (n : Int)) = true := decide_eq_true (by omega)
    clear hbig
    go_enter Tryz.func7, Tryz.ntmps7
    go_wp2_with fail
    go_ret2
    exact ⟨congrArg Ending.returned HV.out, Up.refl _⟩
  · have d2 : decide (200 < (n : Int)) = false := decide_eq_false (by omega)
    have hn2 : n ≤ 200 := by omega
    have hst := Bld.start w
    have HST := Lib.hid hst
    clear hst hbig
    go_enter Tryz.func7, Tryz.ntmps7
    go_wp2_with fail
    go_loopw [15] (LogLoop l w) (fun i _ => n - (intOf i).toNat)
    case atStart => exact ⟨0, Nat.zero_le _, rfl, by simp, HST.out, Up.alloc _ _⟩
    case round =>
      obtain ⟨k, hk, rfl, hall, hb, hu⟩ := hrel
      have HALL := Lib.hid hall
      have HB := Lib.hid hb
      have HU := Lib.hid hu
      rw [HN.out] at hk
      by_cases hlt : k < n
      · have hkl : k < l.length := by rw [HN.out]; exact hlt
        obtain ⟨b, off, rfl, hat⟩ := (HOP.out.up hu).at (fun e => by rw [e] at hkl; simp at hkl)
        obtain ⟨a0, a1, a2, a3, a4⟩ := hat k hkl
        have HWF := Lib.hid (HOP.out.2 l[k] (List.getElem_mem hkl))
        have HTK := Lib.hid (logG_take l k hkl)
        have HEA := Lib.hid (logE_at l k hkl hall)
        have HMEM : Hid (chkO l[k] = 0 → ∀ o ∈ l.take (k + 1), chkO o = 0) := by
          intro h0 o ho
          rw [List.take_succ_eq_append_getElem hkl, List.mem_append, List.mem_singleton] at ho
          rcases ho with ho | rfl
          · exact hall o ho
          · exact h0
        have hlk := logG_len (l.take k) hall
        rw [List.length_take] at hlk
        have HLK : Hid ((logG (frm 1) (l.take k)).length ≤ 20000) := by show _ ≤ _; omega
        have HEN := Lib.hid (fun W => encode_any l[k] W HWF.out)
        have HEL := Lib.hid (fun (h9 : chkO (l[k]'hkl) = 0) => encO_len h9)
        unfold opA encR at HEN
        obtain ⟨D, hD⟩ : ∃ D, l[k] = D := ⟨_, rfl⟩
        rw [hD] at a0 a1 a2 a3 a4 HTK HEA HMEM HEN HEL
        obtain ⟨C, hC⟩ : ∃ C, chkO D = C := ⟨_, rfl⟩
        rw [hC] at HEA HMEM HEN HEL
        obtain ⟨EB, hEB⟩ : ∃ EB, encO D = EB := ⟨_, rfl⟩
        rw [hEB] at HTK HEN HEL
        generalize bs D.nm = S1 at a1 HEN
        generalize bs D.to = S2 at a2 HEN
        generalize bs D.tx = S3 at a4 HEN
        generalize D.kd = K1 at a0 HEN
        generalize D.pl = K2 at a3 HEN
        have d1 : decide (k < n) = true := decide_eq_true hlt
        clear hat hD hC hEB HWF hlk hkl hall hb hu
        go_upto_region 7 with (fail)
        have HUP := Lib.hid (HU.out.trans (Up.alloc wr (.cells #[.int .i64 K1, .string S1, .string S2, .int .i64 K2, .string S3] 27)))
        have HB1 := Lib.hid (HB.out.up (Up.alloc wr (.cells #[.int .i64 K1, .string S1, .string S2, .int .i64 K2, .string S3] 27)))
        have HOQ : Hid (RowC (wr.alloc (.cells #[.int .i64 K1, .string S1, .string S2, .int .i64 K2, .string S3] 27)) wr.heap.size 27 [.int .i64 K1, .string S1, .string S2, .int .i64 K2, .string S3]) := heap_alloc_new wr _
        generalize wr.alloc (.cells #[.int .i64 K1, .string S1, .string S2, .int .i64 K2, .string S3] 27) = WA at HUP HB1 HOQ ⊢
        generalize wr.heap.size = Q at HOQ ⊢
        have y0 := HOQ.out.cell (j := 0) rfl
        have y1 := HOQ.out.cell (j := 1) rfl
        have y2 := HOQ.out.cell (j := 2) rfl
        have y3 := HOQ.out.cell (j := 3) rfl
        have y4 := HOQ.out.cell (j := 4) rfl
        clear a0 a1 a2 a3 a4
        by_cases hc : C = 0
        · subst hc
          have HMEM2 := Lib.hid (HMEM.out rfl)
          have HEN2 : Hid (∀ W, Calls Tryz.prog 17 #[.agg #[.int .i64 K1, .string S1, .string S2, .int .i64 K2, .string S3]] W fun e w' => e = .returned (.tuple #[.string (bs EB), .int .i64 0]) ∧ Up W w') := by
            intro W
            have h9 := HEN.out W
            rw [if_pos rfl] at h9
            exact h9
          obtain ⟨_, hl93, _⟩ := HEL.out rfl
          have HPU := Lib.hid (fun W => frmPut_any 1 EB W (by decide) (by omega))
          have hpv : putV 1 EB = (frm 1 EB, 0) := by
            unfold putV
            rw [if_neg (by omega), if_neg (by omega)]
            rfl
          unfold putR at HPU
          rw [hpv] at HPU
          have hfl := frm_length 1 EB
          have HFL : Hid ((frm 1 EB).length ≤ 100) := by show _ ≤ _; omega
          clear HEN hpv hfl hl93 HEL
          go_wp2_with fail
          refine (HEN2.out _).mono ?_
          rintro e w3 ⟨rfl, u3⟩
          have HB3 := Lib.hid (HB1.out.up u3)
          have HU3 := Lib.hid (HUP.out.trans u3)
          clear u3 y0 y1 y2 y3 y4
          go_wp2_with fail
          refine (HPU.out _).mono ?_
          rintro e w4 ⟨rfl, u4⟩
          have HB4 := Lib.hid (HB3.out.up u4)
          have HU4 := Lib.hid (HU3.out.trans u4)
          clear u4
          have hsz4 := HU4.out.size
          go_wp2_with fail
          refine (bwriteW _ _ _ _ _ HB4.out (by have := HLK.out; have := HFL.out; omega) hsz4).mono ?_
          rintro e w5 ⟨rfl, hb5, u5⟩
          rw [← HTK.out] at hb5
          have HB5 := Lib.hid hb5
          have HU5 := Lib.hid (show Up w w5 from Below.trans HU4.out u5)
          clear hb5 u5 hsz4
          go_wp2_with fail
          go_roundw
          case rel => exact ⟨k + 1, by rw [HN.out]; omega, by go_num, HMEM2.out, HB5.out, HU5.out⟩
          case measure => simp only [intOf]; omega
        · have HV : Hid (.tuple #[.string ⟨#[]⟩, .int .i64 C] = RS) := by
            have h9 := HRS.out
            unfold logV at h9
            rw [if_neg (by rw [HN.out]; omega), HEA.out hc, if_pos hc] at h9
            exact h9
          have HEN2 : Hid (∀ W, Calls Tryz.prog 17 #[.agg #[.int .i64 K1, .string S1, .string S2, .int .i64 K2, .string S3]] W fun e w' => e = .returned (.tuple #[.string ⟨#[]⟩, .int .i64 C]) ∧ Up W w') := by
            intro W
            have h9 := HEN.out W
            rw [if_neg hc] at h9
            exact h9
          have hcz : (C == 0) = false := by rw [beq_eq_false_iff_ne]; exact hc
          clear HEN hc HEA HMEM HEL
          go_wp2_with fail
          refine (HEN2.out _).mono ?_
          rintro e w3 ⟨rfl, u3⟩
          have HU3 := Lib.hid (HUP.out.trans u3)
          clear u3 y0 y1 y2 y3 y4
          go_wp2_with fail
          go_ret2
          exact ⟨congrArg Ending.returned HV.out, HU3.out⟩
      · have d1 : decide (k < n) = false := decide_eq_false hlt
        have hb' := hb
        have hall2 := hall
        rw [List.take_of_length_le (by rw [HN.out]; omega)] at hb' hall2
        have HV : Hid (.tuple #[.string (bs (logG (frm 1) l)), .int .i64 0] = RS) := by
          have h9 := HRS.out
          rw [logV_ok hall2 (by rw [HN.out]; omega)] at h9
          exact h9
        have HB' := Lib.hid hb'
        have hsz := hu.size
        clear hb hb' hu hall hall2
        go_wp2_with fail
        refine (bstring _ _ _ _ HB'.out hsz).mono ?_
        rintro e w2 ⟨rfl, u2⟩
        have HU2 := Lib.hid (show Up w w2 from Below.trans HU.out u2)
        clear u2
        go_wp2_with fail
        go_ret2
        exact ⟨congrArg Ending.returned HV.out, HU2.out⟩

end Go.Proofs.YtkkecgamaahniaaGreat

/-
  What frame's Get returns, at every text. Condition: at most 2^48 bytes.
-/
namespace Go.Proofs.YtkkecgamaahniaaGreat
open Go.RowKit
open Go.Proofs

/-- a frame as a value -/
def frmR (x : Nat × List UInt8) : Value := .agg #[.int .i64 (x.1 : Int), .string (bs x.2)]

/-- what Get answers, as the three results -/
def getR (s : List UInt8) : Value := .tuple #[frmR (getV s).1, .int .i64 (((getV s).2.1 : Nat) : Int), .int .i64 (((getV s).2.2 : Nat) : Int)]

/-- a block of two cells -/
def Box2 (W : World) (B : Nat) (t : TypeId) (x y : Value) : Prop := W.heap[B]? = some (.cells #[x, y] t (0, 0))

theorem Box2.cells {W : World} {B : Nat} {t : TypeId} {x y : Value} (h : Box2 W B t x y) : W.cell? ⟨B, 0, none⟩ = some x ∧ W.cell? ⟨B, 1, none⟩ = some y :=
  ⟨cell_of_row _ _ 0 _ _ _ h, cell_of_row _ _ 1 _ _ _ h⟩
theorem Box2.new (W : World) (t : TypeId) (x y : Value) : Box2 (W.alloc (.cells #[x, y] t)) W.heap.size t x y := heap_alloc_new W _
theorem Box2.below {W W' : World} {n B : Nat} {t : TypeId} {x y : Value} (h : Box2 W B t x y) (hb : Below n W W') (hB : B < n) : Box2 W' B t x y := (hb.block B hB).trans h
theorem Box2.set {W : World} {B : Nat} {t : TypeId} {x y : Value} (h : Box2 W B t x y) (x' y' : Value) : Box2 ((W.setCell ⟨B, 0, none⟩ x').setCell ⟨B, 1, none⟩ y') B t x' y' := by
  unfold Box2 at h ⊢
  simp [World.setCell, Array.getElem?_modify, h]

/-- the cells of a struct result, set -/
theorem set_box2 (w w1 : World) (t : TypeId) (x y x' y' : Value) (u : Up (w.alloc (.cells #[x, y] t)) w1) :
    (∃ w2, (w1.setCell ⟨w.heap.size, 0, none⟩ x').setCell ⟨w.heap.size, 1, none⟩ y' = w2 ∧ w2.cell? ⟨w.heap.size, 0, none⟩ = some x' ∧ w2.cell? ⟨w.heap.size, 1, none⟩ = some y' ∧ Up w w2) ∧
    (∀ k, w1.frozen? ⟨w.heap.size, k, none⟩ = false) ∧ w1.cell? ⟨w.heap.size, 0, none⟩ = some x ∧ w1.cell? ⟨w.heap.size, 1, none⟩ = some y := by
  have hbx : Box2 w1 w.heap.size t x y := Box2.below (Box2.new w _ _ _) u (by simp)
  have U1 := Up.after _ _ _ u
  have hb2 := hbx.set x' y'
  have hu2 : Up w ((w1.setCell ⟨w.heap.size, 0, none⟩ x').setCell ⟨w.heap.size, 1, none⟩ y') := (Below.setCell U1 (p := ⟨w.heap.size, 0, none⟩) (Nat.le_refl _) _).setCell (p := ⟨w.heap.size, 1, none⟩) (Nat.le_refl _) _
  obtain ⟨e0, e1⟩ := hb2.cells
  obtain ⟨c0, c1⟩ := hbx.cells
  exact ⟨⟨_, rfl, e0, e1, hu2⟩, fun k => by unfold Box2 at hbx; simp [World.frozen?, hbx], c0, c1⟩

set_option maxRecDepth 100000 in
set_option maxHeartbeats 1000000 in
theorem frmGet_any (s : List UInt8) (w : World) (hl : s.length ≤ 281474976710656) :
    Calls Tryz.prog 21 #[.string (bs s)] w fun e w' => e = .returned (getR s) ∧ Up w w' := by
  have hsz := bs_size s
  by_cases h1 : s.length < 3
  · have HV : Hid (getR s = .tuple #[.agg #[.int .i64 0, .string (bs [])], .int .i64 0, .int .i64 7]) := by
      show _ = _
      unfold getR getV
      rw [if_pos h1]
      rfl
    obtain ⟨n, hn⟩ : ∃ n, s.length = n := ⟨_, rfl⟩
    rw [hn] at hsz h1
    clear hn hl
    go_enter Tryz.func21, Tryz.ntmps21
    go_wp2_with fail
    exact bodyPost_ret (v := .tuple #[.agg #[.int .i64 0, .string ⟨#[]⟩], .int .i64 0, .int .i64 7]) (by simp [results, Tryz.results21, go_sem]) rfl ⟨by rw [HV.out]; rfl, Up.alloc _ _⟩
  have hto := to_bs s 1 1 rfl (by omega)
  have hsl := slice_bs s 1 3 1 3 rfl rfl (by omega) (by omega)
  rw [show 3 - 1 = 2 from rfl] at hsl
  have hk0 := kind_lt s
  have hb0 := bl_lt s
  obtain ⟨A, hA⟩ : ∃ A, s.take 1 = A := ⟨_, rfl⟩
  obtain ⟨B, hB⟩ : ∃ B, (s.drop 1).take 2 = B := ⟨_, rfl⟩
  have HAL : Hid (A.length ≤ 4) := by show A.length ≤ 4; rw [← hA, List.length_take]; omega
  have HBL : Hid (B.length ≤ 4) := by show B.length ≤ 4; rw [← hB, List.length_take]; omega
  have hbb : bl s = nv B := by unfold bl; rw [hB]
  rw [hA] at hto hk0
  rw [hB] at hsl
  by_cases h2 : nv A = 0 ∨ 700 < bl s
  · have HV : Hid (getR s = .tuple #[.agg #[.int .i64 0, .string (bs [])], .int .i64 0, .int .i64 3]) := by
      show _ = _
      unfold getR getV
      rw [if_neg h1, hA, if_pos h2]
      rfl
    rw [hbb] at h2
    obtain ⟨n, hn⟩ : ∃ n, s.length = n := ⟨_, rfl⟩
    rw [hn] at hsz h1
    obtain ⟨KA, hKA⟩ : ∃ K, nv A = K := ⟨_, rfl⟩
    obtain ⟨KB, hKB⟩ : ∃ K, nv B = K := ⟨_, rfl⟩
    rw [hKA, hKB] at h2
    have HKA := Lib.hid hKA
    have HKB := Lib.hid hKB
    have H2 := Lib.hid h2
    clear hn hl hA hB hbb hb0 hk0 hKA hKB h2
    go_enter Tryz.func21, Tryz.ntmps21
    go_wp2_with fail
    go_region_held3 (fun _ => True) (trivial) (first
      | (go_at_call 42; ((with_reducible refine (valueF_any A _ HAL.out).mono ?_); rintro e w4 ⟨rfl, rfl⟩; rw [HKA.out]))
      | (go_at_call 42; ((with_reducible refine (valueF_any B _ HBL.out).mono ?_); rintro e w5 ⟨rfl, rfl⟩; rw [HKB.out])))
    all_goals
      by_cases h3 : KA = 0
      · subst h3
        clear H2
        go_wp2_with fail
        exact bodyPost_ret (v := .tuple #[.agg #[.int .i64 0, .string ⟨#[]⟩], .int .i64 0, .int .i64 3]) (by simp [results, Tryz.results21, go_sem]) rfl ⟨by rw [HV.out]; rfl, (Up.alloc _ _).trans (Up.drew _)⟩
      · have d1 : ((KA : Int) == 0) = false := by simp; omega
        have d2 : 700 < KB := by rcases H2.out with h | h; exact absurd h h3; exact h
        clear H2 h3
        go_wp2_with fail
        exact bodyPost_ret (v := .tuple #[.agg #[.int .i64 0, .string ⟨#[]⟩], .int .i64 0, .int .i64 3]) (by simp [results, Tryz.results21, go_sem]) rfl ⟨by rw [HV.out]; rfl, (Up.alloc _ _).trans (Up.drew _)⟩
  have h3 : ¬ nv A = 0 := fun h => h2 (.inl h)
  have h4 : ¬ 700 < nv B := fun h => h2 (.inr (by rw [hbb]; exact h))
  by_cases h5 : s.length < bl s + 7
  · have HV : Hid (getR s = .tuple #[.agg #[.int .i64 0, .string (bs [])], .int .i64 0, .int .i64 7]) := by
      show _ = _
      unfold getR getV
      rw [if_neg h1, hA, if_neg h2, if_pos h5]
      rfl
    rw [hbb] at h5
    obtain ⟨n, hn⟩ : ∃ n, s.length = n := ⟨_, rfl⟩
    rw [hn] at hsz h1 h5
    obtain ⟨KA, hKA⟩ : ∃ K, nv A = K := ⟨_, rfl⟩
    obtain ⟨KB, hKB⟩ : ∃ K, nv B = K := ⟨_, rfl⟩
    rw [hKA] at h3
    rw [hKB] at h4 h5
    have d1 : ((KA : Int) == 0) = false := by simp; omega
    have HKA := Lib.hid hKA
    have HKB := Lib.hid hKB
    clear hn hl hA hB hbb hb0 hk0 hKA hKB h2 h3
    go_enter Tryz.func21, Tryz.ntmps21
    go_wp2_with fail
    go_region_held3 (fun _ => True) (trivial) (first
      | (go_at_call 42; ((with_reducible refine (valueF_any A _ HAL.out).mono ?_); rintro e w4 ⟨rfl, rfl⟩; rw [HKA.out]))
      | (go_at_call 42; ((with_reducible refine (valueF_any B _ HBL.out).mono ?_); rintro e w5 ⟨rfl, rfl⟩; rw [HKB.out])))
    all_goals
      go_wp2_with fail
      exact bodyPost_ret (v := .tuple #[.agg #[.int .i64 0, .string ⟨#[]⟩], .int .i64 0, .int .i64 7]) (by simp [results, Tryz.results21, go_sem]) rfl ⟨by rw [HV.out]; rfl, (Up.alloc _ _).trans (Up.drew _)⟩
  have hL : s.length - 7 ≥ nv B := by rw [← hbb]; omega
  have h7 : nv B + 7 ≤ s.length := by rw [← hbb]; omega
  obtain ⟨n, hn⟩ : ∃ n, s.length = n := ⟨_, rfl⟩
  obtain ⟨KB, hKB⟩ : ∃ K, nv B = K := ⟨_, rfl⟩
  rw [hKB] at hbb h4 h7 hL
  have hsl2 := slice_bs s (3 + (KB : Int)) (3 + (KB : Int) + 4) (3 + KB) (3 + KB + 4) (by omega) (by omega) (by omega) (by omega)
  rw [show 3 + KB + 4 - (3 + KB) = 4 by omega] at hsl2
  have hto2 := to_bs s (3 + (KB : Int)) (3 + KB) (by omega) (by omega)
  have hsl3 := slice_bs s 3 (3 + (KB : Int)) 3 (3 + KB) rfl (by omega) (by omega) (by omega)
  rw [show 3 + KB - 3 = KB by omega] at hsl3
  obtain ⟨C, hC⟩ : ∃ C, (s.drop (3 + KB)).take 4 = C := ⟨_, rfl⟩
  obtain ⟨D, hD⟩ : ∃ D, s.take (3 + KB) = D := ⟨_, rfl⟩
  obtain ⟨E, hE⟩ : ∃ E, (s.drop 3).take KB = E := ⟨_, rfl⟩
  have HCL : Hid (C.length ≤ 4) := by show C.length ≤ 4; rw [← hC, List.length_take]; omega
  have HDL : Hid (D.length ≤ 1000) := by show D.length ≤ 1000; rw [← hD, List.length_take]; omega
  have HEL : Hid ((bs E).size ≤ 1000) := by show (bs E).size ≤ 1000; rw [bs_size, ← hE, List.length_take]; omega
  rw [hC] at hsl2
  rw [hD] at hto2
  rw [hE] at hsl3
  obtain ⟨KA, hKA⟩ : ∃ K, nv A = K := ⟨_, rfl⟩
  obtain ⟨V, hV⟩ : ∃ V, nv C = V := ⟨_, rfl⟩
  obtain ⟨F, hF⟩ : ∃ F, fp 1073741907 D = F := ⟨_, rfl⟩
  have hvl : V < 4294967296 := by rw [← hV]; have := nv_small C C.length HCL.out; rwa [List.take_of_length_le (Nat.le_refl _)] at this
  have hfl : F < 1073741824 := by rw [← hF]; exact fp30 D
  by_cases h6 : V = F
  · have HV : Hid (getR s = .tuple #[.agg #[.int .i64 (KA : Int), .string (bs E)], .int .i64 ((KB + 7 : Nat) : Int), .int .i64 0]) := by
      show _ = _
      unfold getR getV
      rw [if_neg h1, hA, if_neg h2, if_neg h5, hbb, hC, hD, hV, hF, if_neg (by simpa using h6), hE, hKA]
      rfl
    subst h6
    rw [hKA] at h3 hk0
    rw [hn] at hsz h1 h7
    have d1 : ((KA : Int) == 0) = false := by simp; omega
    have HKA := Lib.hid hKA
    have HKB := Lib.hid hKB
    have HVV := Lib.hid hV
    have HF := Lib.hid hF
    clear hn hA hB hbb hb0 hKA hKB h2 h3 hV hF hC hD hE hL h5 hl
    go_enter Tryz.func21, Tryz.ntmps21
    go_wp2_with fail
    go_region_held3 (fun _ => True) (trivial) (first
      | (go_at_call 42; ((with_reducible refine (valueF_any A _ HAL.out).mono ?_); rintro e w4 ⟨rfl, rfl⟩; rw [HKA.out]))
      | (go_at_call 42; ((with_reducible refine (valueF_any B _ HBL.out).mono ?_); rintro e w5 ⟨rfl, rfl⟩; rw [HKB.out])))
    all_goals
      go_wp2_with fail
      go_region_held3 (fun _ => True) (trivial) (first
        | (go_at_call 42; ((with_reducible refine (valueF_any C _ HCL.out).mono ?_); rintro e w4 ⟨rfl, rfl⟩; rw [HVV.out]))
        | (go_at_call 40; ((with_reducible refine (frmPrint_any D _ HDL.out).mono ?_); rintro e w6 ⟨rfl, u6⟩; rw [HF.out])))
      all_goals
        go_wp2_with fail
        refine (clone_str (bs E) _ HEL.out).mono ?_
        rintro e w7 ⟨rfl, u7⟩
        obtain ⟨⟨w2, hw2, e0, e1, hw⟩, hfz, c0, c1⟩ := set_box2 w w7 56 (.int .i64 0) (.string ⟨#[]⟩) (.int .i64 (KA : Int)) (.string (bs E)) ((((Up.drew _).trans (Up.drew _)).trans u6).trans u7)
        have HW := Lib.hid hw2
        clear hw2
        go_wp2_with fail
        rw [HW.out]
        exact bodyPost_ret (v := .tuple #[.agg #[.int .i64 (KA : Int), .string (bs E)], .int .i64 (3 + (KB : Int) + 4), .int .i64 0]) (by simp [results, Tryz.results21, go_sem, e0, e1]) rfl ⟨by rw [HV.out, show ((KB + 7 : Nat) : Int) = 3 + (KB : Int) + 4 by omega], hw⟩
  · have HV : Hid (getR s = .tuple #[.agg #[.int .i64 0, .string (bs [])], .int .i64 0, .int .i64 6]) := by
      show _ = _
      unfold getR getV
      rw [if_neg h1, hA, if_neg h2, if_neg h5, hbb, hC, hD, hV, hF, if_pos h6]
      rfl
    rw [hKA] at h3 hk0
    rw [hn] at hsz h1 h7
    have d1 : ((KA : Int) == 0) = false := by simp; omega
    have d2 : (V != F) = true := by simp; omega
    have d3 : (V == F) = false := by simp; omega
    have HKA := Lib.hid hKA
    have HKB := Lib.hid hKB
    have HVV := Lib.hid hV
    have HF := Lib.hid hF
    clear hn hA hB hbb hb0 hKA hKB h2 h3 hV hF hC hD hE hL h5 hl h6
    go_enter Tryz.func21, Tryz.ntmps21
    go_wp2_with fail
    go_region_held3 (fun _ => True) (trivial) (first
      | (go_at_call 42; ((with_reducible refine (valueF_any A _ HAL.out).mono ?_); rintro e w4 ⟨rfl, rfl⟩; rw [HKA.out]))
      | (go_at_call 42; ((with_reducible refine (valueF_any B _ HBL.out).mono ?_); rintro e w5 ⟨rfl, rfl⟩; rw [HKB.out])))
    all_goals
      go_wp2_with fail
      go_region_held3 (fun _ => True) (trivial) (first
        | (go_at_call 42; ((with_reducible refine (valueF_any C _ HCL.out).mono ?_); rintro e w4 ⟨rfl, rfl⟩; rw [HVV.out]))
        | (go_at_call 40; ((with_reducible refine (frmPrint_any D _ HDL.out).mono ?_); rintro e w6 ⟨rfl, u6⟩; rw [HF.out])))
      all_goals
        obtain ⟨⟨w2, hw2, e0, e1, hw⟩, hfz, c0, c1⟩ := set_box2 w w6 56 (.int .i64 0) (.string ⟨#[]⟩) (.int .i64 0) (.string ⟨#[]⟩) (((Up.drew _).trans (Up.drew _)).trans u6)
        have HW := Lib.hid hw2
        clear hw2
        go_wp2_with fail
        rw [HW.out]
        exact bodyPost_ret (v := .tuple #[.agg #[.int .i64 0, .string ⟨#[]⟩], .int .i64 0, .int .i64 6]) (by simp [results, Tryz.results21, go_sem, e0, e1]) rfl ⟨by rw [HV.out]; rfl, hw⟩

end Go.Proofs.YtkkecgamaahniaaGreat
