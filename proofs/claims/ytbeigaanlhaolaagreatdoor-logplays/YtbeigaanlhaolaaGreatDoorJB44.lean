/-
  The texts BldW, LogC, one behind the other; each says below what it holds and on what conditions.
-/
import Derived.Test.YtbeigaanlhaolaaGreatDoorJB43
import Derived.Test.YtbeigaanlhaolaaGreatDoorJB08
import Derived.Test.YtbeigaanlhaolaaGreatDoorJB28

/-
  What a Builder's WriteString makes of it. Conditions: as it says.
-/
namespace Go.Proofs.YtbeigaanlhaolaaGreatDoor
open Go.RowKit
open Go.Proofs

theorem bwInfo : (Tryz.prog.info? 5).map (fun i => (i.zero, i.size, i.bytes)) = some (some (.int .u8 0), 1, 1) := by kernel_rfl
theorem bwNe : (45 : Nat) ≠ 5 := by decide

theorem bwSize : (Tryz.prog.info? 45).map (·.size) = some 2 := by kernel_rfl
theorem bwLies : liesAt Tryz.prog Tryz.prog.depth 45 (2 / Tryz.prog.cellsOf 45) 0 45 1 = true := by kernel_rfl

set_option maxHeartbeats 1000000 in
set_option maxRecDepth 100000 in
theorem bcheck_used (b : Nat) (w : World) (h0 : w.cell? ⟨b, 0, none⟩ = some (.pointer (some ⟨b, 0, none⟩))) :
    Calls Tryz.prog 29 #[.pointer (some ⟨b, 0, none⟩)] w fun e w' => e = .returned (.tuple #[]) ∧ w' = w := by
  obtain ⟨j, hj, _⟩ := Option.map_eq_some_iff.1 bwSize
  go_enter Tryz.func29, Tryz.ntmps29
  go_wp2
  rw [Lib.run_neq_ptr_same w _ Tryz.underlying42 hj]
  go_wp2
  go_end0
  exact ⟨rfl, rfl⟩

set_option maxHeartbeats 1000000 in
set_option maxRecDepth 100000 in
theorem bcheck_fresh (b : Nat) (w : World) (h0 : w.cell? ⟨b, 0, none⟩ = some (.pointer none)) (hsh : w.shape? b = some (45, 2)) (hfz : w.frozen? ⟨b, 0, none⟩ = false) :
    Calls Tryz.prog 29 #[.pointer (some ⟨b, 0, none⟩)] w fun e w' => e = .returned (.tuple #[]) ∧ w' = w.setCell ⟨b, 0, none⟩ (.pointer (some ⟨b, 0, none⟩)) := by
  obtain ⟨j, hj, hjs⟩ := Option.map_eq_some_iff.1 bwSize
  go_enter Tryz.func29, Tryz.ntmps29
  go_wp2
  rw [Lib.run_to_unsafe w ⟨b, 0, none⟩ Tryz.underlying42 Tryz.underlying101 hj (by rw [hjs]; decide) hsh (Nat.zero_lt_succ 1)]
  simp only [Result.andThen]
  rw [Oper.upon_value]
  go_wp2
  rw [run_callFunc_extern Tryz.func56 (by kernel_rfl) (by kernel_rfl) (by kernel_rfl) (e := Extern.AbiNoEscape.same) (by kernel_rfl)]
  rw [Lib.run_noEscape]
  simp only [Result.andThen]
  rw [Oper.upon_value]
  go_wp2
  rw [Lib.run_from_unsafe w ⟨b, 0, none⟩ Tryz.underlying101 Tryz.underlying42 hj hsh bwLies]
  simp only [Result.andThen]
  rw [Oper.upon_value]
  go_wp2
  go_end0
  exact ⟨rfl, rfl⟩

theorem bcheck_any (B b : Nat) (xs : List Value) (w : World) (h : Lib.IsBuilder 45 5 B b xs w) :
    Calls Tryz.prog 29 #[.pointer (some ⟨b, 0, none⟩)] w fun e w' => e = .returned (.tuple #[]) ∧ (Lib.BuilderAt 45 5 B b (.pointer (some ⟨b, 0, none⟩)) xs w' ∧ Below B w w') := by
  rcases h with h | h
  · refine (bcheck_fresh b w h.cell0 h.shape h.frozen0).mono ?_
    rintro e w' ⟨rfl, rfl⟩
    exact ⟨rfl, h.used _, (Below.refl B w).setCell (p := ⟨b, 0, none⟩) h.1 _⟩
  · refine (bcheck_used b w h.cell0).mono ?_
    rintro e w' ⟨rfl, rfl⟩
    exact ⟨rfl, h, Below.refl B _⟩

set_option maxRecDepth 100000 in
set_option maxHeartbeats 2000000 in
theorem bwriteW (l m : List UInt8) (B b : Nat) (w : World) (h : Bld w B b l) (hlen : l.length + m.length ≤ 140737488355328) (hBw : B ≤ w.heap.size) :
    Calls Tryz.prog 13 #[.pointer (some ⟨b, 0, none⟩), .string (bs m)] w fun e w' => e = .returned (.tuple #[.int .i64 ((m.length : Nat) : Int), .nilIface]) ∧ Bld w' B b (l ++ m) ∧ Below B w w' := by
  have hsz := bs_size m
  have HCC := Lib.hid (bcheck_any B b (Lib.byteCells l) w h)
  obtain ⟨i0, hi, hz0, hz1, hz2⟩ := info_parts bwInfo
  have e1 : Lib.byteCells l ++ Lib.strCells (bs m) = Lib.byteCells (l ++ m) := by
    show Lib.byteCells l ++ Lib.byteCells m = _
    simp [Lib.byteCells]
  have hll : (Lib.byteCells l).length = l.length := by simp [Lib.byteCells]
  clear h
  go_enter Tryz.func13, Tryz.ntmps13
  go_wp2_with fail
  refine HCC.out.mono ?_
  rintro e w1 ⟨rfl, h1, hb1⟩
  obtain ⟨hB, v, hbk, hown, hne⟩ := h1
  have c0 : w1.cell? ⟨b, 0, none⟩ = some (.pointer (some ⟨b, 0, none⟩)) := by rw [Lib.cell_of_heap hbk]; rfl
  have c1 : w1.cell? ⟨b, 1, none⟩ = some v := by rw [Lib.cell_of_heap hbk]; rfl
  go_wp2_with (at_builtin; refine Lib.wpList_append_own_string _ rfl _ _ 43 9 rfl B 5 i0 Tryz.underlying43 Tryz.underlying9 hi hz0 hz1 hz2 _ _ _ rfl hown (bs m) rfl ?c3 ?c4 ?c5 ?_)
  case c3 => unfold maxLen; omega
  case c4 => omega
  case c5 => have := hb1.size; omega
  intro v' w2 hown' hgrow _
  have hlt : b < w1.heap.size := by
    rcases Nat.lt_or_ge b w1.heap.size with h' | h'
    · exact h'
    · simp [Array.getElem?_eq_none h'] at hbk
  have hb2 : w2.heap[b]? = some (.cells #[.pointer (some ⟨b, 0, none⟩), v] 45 (0, 0)) := by
    rw [hgrow.block b hlt (fun e => hne e.symm)]
    exact hbk
  have d0 : w2.cell? ⟨b, 0, none⟩ = some (.pointer (some ⟨b, 0, none⟩)) := by rw [Lib.cell_of_heap hb2]; rfl
  have d1 : w2.cell? ⟨b, 1, none⟩ = some v := by rw [Lib.cell_of_heap hb2]; rfl
  have f1 : w2.frozen? ⟨b, 1, none⟩ = false := Lib.frozen_of_heap hb2 1
  obtain ⟨ao, n', cap, rfl⟩ : ∃ ao n' cap, v' = .slice ao n' cap := by
    rcases hown'.2 with ⟨hv, _⟩ | ⟨g, cap, cur, hv, _⟩
    · exact ⟨_, _, _, hv⟩
    · exact ⟨_, _, _, hv⟩
  go_wp2
  go_ret2
  refine ⟨rfl, ?_, ?_⟩
  · refine .inr ?_
    have hl9 : (Lib.byteCells (l ++ m)).length = l.length + m.length := by simp [Lib.byteCells]
    exact Lib.BuilderAt.put (T := 45) (e := 5) hB hb2 (bs' := Lib.byteCells (l ++ m)) (by rw [hl9]; first | exact hown' | (rw [← e1]; exact hown') | (rw [← e1]; simpa [hll, hsz, e1] using hown')) bwNe
  · exact (hb1.grown hgrow (by have := hb1.size; omega) (fun k hk => (hown.lt k hk).1)).setCell (p := ⟨b, 1, none⟩) hB _

end Go.Proofs.YtbeigaanlhaolaaGreatDoor

/-
  What package log's Log returns. Conditions: a slice of deeds that reads as deeds.
-/
namespace Go.Proofs.YtbeigaanlhaolaaGreatDoor
open Go.RowKit
open Go.Proofs
open WoolVol

/-- the first error of deeds -/
def logE : List Opn → Int
  | [] => 0
  | o :: r => if chkO o ≠ 0 then chkO o else logE r

/-- what Log answers -/
def logV (l : List Opn) : List UInt8 × Int := if 200 < l.length then ([], 2) else if logE l ≠ 0 then ([], logE l) else (logG (frm 1) l, 0)

theorem logE_at : ∀ (l : List Opn) (k : Nat) (h : k < l.length), (∀ o ∈ l.take k, chkO o = 0) → chkO l[k] ≠ 0 → logE l = chkO l[k]
  | o :: r, 0, _, _, h2 => by
    have h3 : chkO o ≠ 0 := h2
    show (if chkO o ≠ 0 then chkO o else logE r) = chkO o
    rw [if_pos h3]
  | o :: r, k + 1, h, h1, h2 => by
    have h0 : chkO o = 0 := h1 o (by simp)
    show (if chkO o ≠ 0 then chkO o else logE r) = _
    rw [if_neg (by simp [h0])]
    exact logE_at r k (by simpa using h) (fun x hx => h1 x (by simp [hx])) h2

theorem logE_ok : ∀ (l : List Opn), (∀ o ∈ l, chkO o = 0) → logE l = 0
  | [], _ => rfl
  | o :: r, h => by
    show (if chkO o ≠ 0 then chkO o else logE r) = 0
    rw [if_neg (by simp [h o (by simp)])]
    exact logE_ok r (fun x hx => h x (by simp [hx]))

theorem logV_ok {l : List Opn} (h : ∀ o ∈ l, chkO o = 0) (hl : l.length ≤ 200) : logV l = (logG (frm 1) l, 0) := by
  unfold logV
  rw [if_neg (by omega), if_neg (by simp [logE_ok l h])]

theorem logG_len : ∀ (l : List Opn), (∀ o ∈ l, chkO o = 0) → (logG (frm 1) l).length ≤ l.length * 100
  | [], _ => by simp [logG_nil]
  | o :: r, h => by
    have h1 := encO_len (h o (by simp))
    have h2 := logG_len r (fun x hx => h x (by simp [hx]))
    rw [logG_cons, List.length_append, frm_length, List.length_cons]
    omega

theorem logG_take (l : List Opn) (k : Nat) (h : k < l.length) : logG (frm 1) (l.take (k + 1)) = logG (frm 1) (l.take k) ++ frm 1 (encO l[k]) := by
  rw [List.take_succ_eq_append_getElem h, logG_append, logG_cons, logG_nil, List.append_nil]

def LogLoop (l : List Opn) (w : World) (i : Value) (wr : World) : Prop :=
  ∃ k : Nat, k ≤ l.length ∧ i = .int .i64 (k : Int) ∧ (∀ o ∈ l.take k, chkO o = 0) ∧ Bld wr w.heap.size w.heap.size (logG (frm 1) (l.take k)) ∧ Up w wr

set_option maxRecDepth 100000 in
set_option maxHeartbeats 2000000 in
theorem log_any (v : Value) (l : List Opn) (w : World) (h : Ops w v l) : Calls Tryz.prog 4 #[v] w fun e w' => e = .returned (.tuple #[.string (bs (logV l).1), .int .i64 (logV l).2]) ∧ Up w w' := by
  have HOP := Lib.hid h
  obtain ⟨o, c, rfl, p1, p2⟩ := h.slice
  unfold maxLen at p2
  obtain ⟨RS, hRS⟩ : ∃ RS : Value, .tuple #[.string (bs (logV l).1), .int .i64 (logV l).2] = RS := ⟨_, rfl⟩
  rw [hRS]
  have HRS := Lib.hid hRS
  obtain ⟨n, hn⟩ : ∃ n, l.length = n := ⟨_, rfl⟩
  rw [hn] at p1 HOP ⊢
  have HN := Lib.hid hn
  clear hn h hRS
  have e0 : (⟨#[]⟩ : ByteArray) = bs [] := rfl
  by_cases hbig : 200 < n
  · have HV : Hid (.tuple #[.string ⟨#[]⟩, .int .i64 2] = RS) := by
      have h9 := HRS.out
      unfold logV at h9
      rw [if_pos (by rw [HN.out]; exact hbig)] at h9
      exact h9
    have d1 : decide ((n : Int) > 200) = true := decide_eq_true (by omega)
    have d2 : decide (200 < (n : Int)) = true := decide_eq_true (by omega)
    clear hbig
    go_enter Tryz.func4, Tryz.ntmps4
    go_wp2_with fail
    go_ret2
    exact ⟨congrArg Ending.returned HV.out, Up.refl _⟩
  · have d2 : decide (200 < (n : Int)) = false := decide_eq_false (by omega)
    have hn2 : n ≤ 200 := by omega
    have hst := Bld.start w
    have HST := Lib.hid hst
    clear hst hbig
    go_enter Tryz.func4, Tryz.ntmps4
    go_wp2_with fail
    go_loopw [15] (LogLoop l w) (fun i _ => n - (intOf i).toNat)
    case atStart => exact ⟨0, Nat.zero_le _, rfl, by simp, HST.out, Up.alloc _ _⟩
    case round =>
      obtain ⟨k, hk, rfl, hall, hb, hu⟩ := hrel
      have HALL := Lib.hid hall
      have HB := Lib.hid hb
      have HU := Lib.hid hu
      rw [HN.out] at hk
      by_cases hlt : k < n
      · have hkl : k < l.length := by rw [HN.out]; exact hlt
        obtain ⟨b, off, rfl, hat⟩ := (HOP.out.up hu).at (fun e => by rw [e] at hkl; simp at hkl)
        obtain ⟨a0, a1, a2, a3, a4⟩ := hat k hkl
        have HWF := Lib.hid (HOP.out.2 l[k] (List.getElem_mem hkl))
        have HTK := Lib.hid (logG_take l k hkl)
        have HEA := Lib.hid (logE_at l k hkl hall)
        have HMEM : Hid (chkO l[k] = 0 → ∀ o ∈ l.take (k + 1), chkO o = 0) := by
          intro h0 o ho
          rw [List.take_succ_eq_append_getElem hkl, List.mem_append, List.mem_singleton] at ho
          rcases ho with ho | rfl
          · exact hall o ho
          · exact h0
        have hlk := logG_len (l.take k) hall
        rw [List.length_take] at hlk
        have HLK : Hid ((logG (frm 1) (l.take k)).length ≤ 20000) := by show _ ≤ _; omega
        have HEN := Lib.hid (fun W => encode_any l[k] W HWF.out)
        have HEL := Lib.hid (fun (h9 : chkO (l[k]'hkl) = 0) => encO_len h9)
        unfold opA encR at HEN
        obtain ⟨D, hD⟩ : ∃ D, l[k] = D := ⟨_, rfl⟩
        rw [hD] at a0 a1 a2 a3 a4 HTK HEA HMEM HEN HEL
        obtain ⟨C, hC⟩ : ∃ C, chkO D = C := ⟨_, rfl⟩
        rw [hC] at HEA HMEM HEN HEL
        obtain ⟨EB, hEB⟩ : ∃ EB, encO D = EB := ⟨_, rfl⟩
        rw [hEB] at HTK HEN HEL
        generalize bs D.nm = S1 at a1 HEN
        generalize bs D.to = S2 at a2 HEN
        generalize bs D.tx = S3 at a4 HEN
        generalize D.kd = K1 at a0 HEN
        generalize D.pl = K2 at a3 HEN
        have d1 : decide (k < n) = true := decide_eq_true hlt
        clear hat hD hC hEB HWF hlk hkl hall hb hu
        go_upto_region 7 with (fail)
        have HUP := Lib.hid (HU.out.trans (Up.alloc wr (.cells #[.int .i64 K1, .string S1, .string S2, .int .i64 K2, .string S3] 27)))
        have HB1 := Lib.hid (HB.out.up (Up.alloc wr (.cells #[.int .i64 K1, .string S1, .string S2, .int .i64 K2, .string S3] 27)))
        have HOQ : Hid (RowC (wr.alloc (.cells #[.int .i64 K1, .string S1, .string S2, .int .i64 K2, .string S3] 27)) wr.heap.size 27 [.int .i64 K1, .string S1, .string S2, .int .i64 K2, .string S3]) := heap_alloc_new wr _
        generalize wr.alloc (.cells #[.int .i64 K1, .string S1, .string S2, .int .i64 K2, .string S3] 27) = WA at HUP HB1 HOQ ⊢
        generalize wr.heap.size = Q at HOQ ⊢
        have y0 := HOQ.out.cell (j := 0) rfl
        have y1 := HOQ.out.cell (j := 1) rfl
        have y2 := HOQ.out.cell (j := 2) rfl
        have y3 := HOQ.out.cell (j := 3) rfl
        have y4 := HOQ.out.cell (j := 4) rfl
        clear a0 a1 a2 a3 a4
        by_cases hc : C = 0
        · subst hc
          have HMEM2 := Lib.hid (HMEM.out rfl)
          have HEN2 : Hid (∀ W, Calls Tryz.prog 11 #[.agg #[.int .i64 K1, .string S1, .string S2, .int .i64 K2, .string S3]] W fun e w' => e = .returned (.tuple #[.string (bs EB), .int .i64 0]) ∧ Up W w') := by
            intro W
            have h9 := HEN.out W
            rw [if_pos rfl] at h9
            exact h9
          obtain ⟨_, hl93, _⟩ := HEL.out rfl
          have HPU := Lib.hid (fun W => frmPut_any 1 EB W (by decide) (by omega))
          have hpv : putV 1 EB = (frm 1 EB, 0) := by
            unfold putV
            rw [if_neg (by omega), if_neg (by omega)]
            rfl
          unfold putR at HPU
          rw [hpv] at HPU
          have hfl := frm_length 1 EB
          have HFL : Hid ((frm 1 EB).length ≤ 100) := by show _ ≤ _; omega
          clear HEN hpv hfl hl93 HEL
          go_wp2_with fail
          refine (HEN2.out _).mono ?_
          rintro e w3 ⟨rfl, u3⟩
          have HB3 := Lib.hid (HB1.out.up u3)
          have HU3 := Lib.hid (HUP.out.trans u3)
          clear u3 y0 y1 y2 y3 y4
          go_wp2_with fail
          refine (HPU.out _).mono ?_
          rintro e w4 ⟨rfl, u4⟩
          have HB4 := Lib.hid (HB3.out.up u4)
          have HU4 := Lib.hid (HU3.out.trans u4)
          clear u4
          have hsz4 := HU4.out.size
          go_wp2_with fail
          refine (bwriteW _ _ _ _ _ HB4.out (by have := HLK.out; have := HFL.out; omega) hsz4).mono ?_
          rintro e w5 ⟨rfl, hb5, u5⟩
          rw [← HTK.out] at hb5
          have HB5 := Lib.hid hb5
          have HU5 := Lib.hid (show Up w w5 from Below.trans HU4.out u5)
          clear hb5 u5 hsz4
          go_wp2_with fail
          go_roundw
          case rel => exact ⟨k + 1, by rw [HN.out]; omega, by go_num, HMEM2.out, HB5.out, HU5.out⟩
          case measure => simp only [intOf]; omega
        · have HV : Hid (.tuple #[.string ⟨#[]⟩, .int .i64 C] = RS) := by
            have h9 := HRS.out
            unfold logV at h9
            rw [if_neg (by rw [HN.out]; omega), HEA.out hc, if_pos hc] at h9
            exact h9
          have HEN2 : Hid (∀ W, Calls Tryz.prog 11 #[.agg #[.int .i64 K1, .string S1, .string S2, .int .i64 K2, .string S3]] W fun e w' => e = .returned (.tuple #[.string ⟨#[]⟩, .int .i64 C]) ∧ Up W w') := by
            intro W
            have h9 := HEN.out W
            rw [if_neg hc] at h9
            exact h9
          have hcz : (C == 0) = false := by rw [beq_eq_false_iff_ne]; exact hc
          clear HEN hc HEA HMEM HEL
          go_wp2_with fail
          refine (HEN2.out _).mono ?_
          rintro e w3 ⟨rfl, u3⟩
          have HU3 := Lib.hid (HUP.out.trans u3)
          clear u3 y0 y1 y2 y3 y4
          go_wp2_with fail
          go_ret2
          exact ⟨congrArg Ending.returned HV.out, HU3.out⟩
      · have d1 : decide (k < n) = false := decide_eq_false hlt
        have hb' := hb
        have hall2 := hall
        rw [List.take_of_length_le (by rw [HN.out]; omega)] at hb' hall2
        have HV : Hid (.tuple #[.string (bs (logG (frm 1) l)), .int .i64 0] = RS) := by
          have h9 := HRS.out
          rw [logV_ok hall2 (by rw [HN.out]; omega)] at h9
          exact h9
        have HB' := Lib.hid hb'
        have hsz := hu.size
        clear hb hb' hu hall hall2
        go_wp2_with fail
        refine (bstring _ _ _ _ HB'.out hsz).mono ?_
        rintro e w2 ⟨rfl, u2⟩
        have HU2 := Lib.hid (show Up w w2 from Below.trans HU.out u2)
        clear u2
        go_wp2_with fail
        go_ret2
        exact ⟨congrArg Ending.returned HV.out, HU2.out⟩

end Go.Proofs.YtbeigaanlhaolaaGreatDoor
