/-
  What the reference's Expand returns, for every row of tokens: the error of the first token that has one, else the text. Conditions: the row can be read.
-/
import Derived.Test.YtloiciinmdmdkaaGreatDoorRefTok
import Derived.Test.YtloiciinmdmdkaaGreatDoorLzM2
import Derived.Test.YtloiciinmdmdkaaGreatDoorShelf
import Derived.Deep.RegionHeld3
namespace Go.Proofs.YtloiciinmdmdkaaGreatDoor
open Go.RowKit
open Go.Proofs
open WoolLz

/-- a text's end -/
theorem str_from (s : ByteArray) (a : Int) (m : Nat) (ha : a = (m : Int)) (h : m ≤ s.size) :
    ∀ W : World, (Instr.slice 9 (.string s) (some (.int .i64 a)) none none).run Tryz.prog W = .ok (.string (s.extract m s.size)) W := by
  intro W
  subst ha
  rw [run_slice_string_l W 9 s Tryz.underlying9 .i64 (m : Int) (by omega) (by omega)]
  rfl

/-- a text's beginning -/
theorem str_to (s : ByteArray) (a : Int) (m : Nat) (ha : a = (m : Int)) (h : m ≤ s.size) :
    ∀ W : World, (Instr.slice 9 (.string s) none (some (.int .i64 a)) none).run Tryz.prog W = .ok (.string (s.extract 0 m)) W := by
  intro W
  subst ha
  rw [run_slice_string_h W 9 s Tryz.underlying9 .i64 (m : Int) (by omega) (by omega)]
  rfl

theorem quo_run (N D q : Nat) (hq : N / D = q) (hN : N ≤ 64) : (N : Int).tdiv (D : Int) = (q : Int) ∧ (N : Int) / (D : Int) = (q : Int) ∧ IntKind.i64.wrap (q : Int) = (q : Int) := by
  have hle := Nat.div_le_self N D
  refine ⟨by rw [← Int.ofNat_tdiv, hq], ?_, IntWalk.i64_in _ (by omega)⟩
  rw [← hq]
  exact (Int.natCast_ediv N D).symm

theorem ba_same (a : ByteArray) : (⟨a.data.toList.toArray⟩ : ByteArray) = a := by
  cases a; simp

def RExpRel (l : List Tok) (R : Int × List UInt8) (w : World) (out i : Value) (wr : World) : Prop :=
  ∃ (k : Nat) (o : ByteArray), k ≤ l.length ∧ i = .int .i64 k ∧ o.size ≤ 600 ∧ out = .string o ∧ exp o.data.toList (l.drop k) = R ∧ Up w wr

theorem err_of (d l b : Int) (n : Nat) (h : (litB ⟨d, l, b⟩ || copB ⟨d, l, b⟩) = true) : err ⟨d, l, b⟩ n = if (n : Int) < d then 3 else if 600 < (n : Int) + max l 1 then 2 else 0 := by
  rw [err_eq, if_neg]
  intro hh
  rw [hh.1, hh.2] at h
  cases h

/-- the text of a copy -/
theorem copy_text (o : ByteArray) (D N : Nat) (b : Int) (hD : 1 ≤ D) (hN : 1 ≤ N) (hDo : D ≤ o.size) :
    (o ++ (⟨(Lib.repeatL (o.extract (o.size - D) o.size).data.toList (N / D + 1)).toArray⟩ : ByteArray).extract 0 N).data.toList = app o.data.toList ⟨(D : Int), (N : Int), b⟩ := by
  unfold app
  show _ = if (N : Int) = 0 then _ else cpy _ (D : Int).toNat (N : Int).toNat
  rw [if_neg (by omega), Int.toNat_natCast, Int.toNat_natCast, cpy_repeat _ D N hD (by rw [ba_length]; exact hDo), ba_append_list, extract_list]
  congr 2
  show Lib.repeatL _ _ = Lib.repeatL _ _
  congr 1
  rw [← ByteArray.toList_eq, ext_list, ba_length, List.take_of_length_le (by rw [List.length_drop, ba_length]; omega)]

theorem repeat_size (o : ByteArray) (D N : Nat) (hD : 1 ≤ D) (hDo : D ≤ o.size) : N ≤ (⟨(Lib.repeatL (o.extract (o.size - D) o.size).data.toList (N / D + 1)).toArray⟩ : ByteArray).size := by
  show N ≤ (Lib.repeatL _ _).toArray.size
  rw [List.size_toArray, Lib.repeatL_length, ba_length, ByteArray.size_extract, show min o.size o.size - (o.size - D) = D by omega, Nat.add_mul, Nat.one_mul]
  have := Nat.div_add_mod N D
  have := Nat.mod_lt N (show 0 < D by omega)
  have := Nat.mul_comm D (N / D)
  omega

set_option maxRecDepth 100000 in
set_option maxHeartbeats 1000000 in
theorem refExpand_any (v : Value) (l : List Tok) (w : World) (h : Toks w v l) :
    Calls Tryz.prog 22 #[v] w fun e w' => e = .returned (.tuple #[.string ⟨(exp [] l).2.toArray⟩, .int .i64 (exp [] l).1]) ∧ Up w w' := by
  obtain ⟨o, c, rfl, h2, h3, h4⟩ := h
  unfold maxLen at h3
  generalize hR : exp [] l = R
  have HR := Lib.hid hR
  have H4 := Lib.hid h4
  clear hR h4
  go_enter Tryz.func22, Tryz.ntmps22
  go_wp2_with fail
  go_loopw [4, 10] (fun out i wr => RExpRel l R w out i wr) (fun _ i _ => l.length - (intOf i).toNat)
  case atStart => exact ⟨0, ⟨#[]⟩, Nat.zero_le _, rfl, Nat.zero_le _, rfl, HR.out, Up.refl w⟩
  case round =>
    obtain ⟨k, s, hk, rfl, hs6, rfl, hex, hu⟩ := hrel
    by_cases hlt : k < l.length
    · rcases H4.out with h5 | ⟨b, off, rfl, h5⟩
      · rw [h5] at hlt; simp at hlt
      · obtain ⟨a1, a2, a3⟩ := h5 k hlt
        rw [← hu.cell (World.block_lt_of_cell? w _ a1)] at a1
        rw [← hu.cell (World.block_lt_of_cell? w _ a2)] at a2
        rw [← hu.cell (World.block_lt_of_cell? w _ a3)] at a3
        rw [List.drop_eq_getElem_cons hlt, exp_cons, ba_length] at hex
        obtain ⟨⟨td, tl, tb⟩, ht⟩ : ∃ t, l[k] = t := ⟨_, rfl⟩
        rw [ht] at a1 a2 a3 hex
        have HU := Lib.hid hu
        have HEX := Lib.hid hex
        clear h5 ht hu hex
        have d1 : decide (k < l.length) = true := decide_eq_true hlt
        go_wp2_with fail
        refine (refToken_any td tl tb _).mono ?_
        rintro e w1 ⟨rfl, u1⟩
        obtain ⟨c0, c1, c2⟩ := new_cells _ _ _ _ _ _ u1
        have HU1 := Lib.hid (HU.out.trans (Up.after _ _ _ u1))
        have hlt1 : wr.heap.size < w1.heap.size := by have := u1.size; simp at this; omega
        have hex := HEX.out
        clear u1 a1 a2 a3 HEX HU
        cases hT : (litB ⟨td, tl, tb⟩ || copB ⟨td, tl, tb⟩) with
        | false =>
          have hE : err ⟨td, tl, tb⟩ s.size = 1 := by
            rw [err_eq, if_pos]
            rw [Bool.or_eq_false_iff] at hT
            exact hT
          rw [hE, if_neg (by decide)] at hex
          subst hex
          clear hT hE
          go_wp2_with fail
          go_ret2
          exact ⟨rfl, HU1.out⟩
        | true =>
          have hE := err_of td tl tb s.size hT
          obtain ⟨t1, t2, t3, t4, t5, t6⟩ := tok_l ⟨td, tl, tb⟩ (by rw [Bool.or_eq_true] at hT; exact hT)
          have t1 : 0 ≤ tl := t1
          have t2 : tl ≤ 64 := t2
          have t3 : 0 ≤ td := t3
          have t4 : td ≤ 256 := t4
          have t6 : tl ≠ 0 → 1 ≤ td := t6
          have HL : Hid (tl = 0 → 0 ≤ tb ∧ tb ≤ 255) := Lib.hid (fun h0 => by
            rw [Bool.or_eq_true] at hT
            rcases hT with h | h
            · unfold litB at h; rw [decide_eq_true_iff] at h; exact ⟨h.2.2.1, h.2.2.2⟩
            · unfold copB at h; rw [decide_eq_true_iff] at h; exact absurd h.1 (by show ¬ (1 ≤ tl); omega))
          have H6 := Lib.hid t6
          clear hT t5 t6
          obtain ⟨D, rfl⟩ := Int.eq_ofNat_of_zero_le t3
          obtain ⟨N, rfl⟩ := Int.eq_ofNat_of_zero_le t1
          by_cases hd : s.size < D
          · have g1 : decide (s.size < D) = true := decide_eq_true hd
            rw [if_pos (by omega)] at hE
            rw [hE, if_neg (by decide)] at hex
            subst hex
            clear hE
            go_wp2_with fail
            go_ret2
            exact ⟨rfl, HU1.out⟩
          · have g1 : decide (s.size < D) = false := decide_eq_false hd
            rw [if_neg (by omega)] at hE
            by_cases hn : 600 < s.size + N
            · have g2 : decide (600 < (s.size : Int) + (N : Int)) = true := by rw [decide_eq_true_iff]; omega
              rw [if_pos (by omega)] at hE
              rw [hE, if_neg (by decide)] at hex
              subst hex
              clear hE
              go_wp2_with fail
              go_ret2
              exact ⟨rfl, HU1.out⟩
            · have g2 : decide (600 < (s.size : Int) + (N : Int)) = false := by rw [decide_eq_false_iff_not]; omega
              by_cases h600 : s.size = 600
              · have g3 : ((s.size : Int) == 600) = true := by rw [beq_iff_eq]; omega
                rw [if_pos (by omega)] at hE
                rw [hE, if_neg (by decide)] at hex
                subst hex
                clear hE h600
                go_wp2_with fail
                go_ret2
                exact ⟨rfl, HU1.out⟩
              · have g3 : ((s.size : Int) == 600) = false := by rw [beq_eq_false_iff_ne]; omega
                rw [if_neg (by omega)] at hE
                rw [hE, if_pos rfl] at hex
                have HEX := Lib.hid hex
                have hs5 : s.size + 1 ≤ 600 := by omega
                clear hE hex h600
                by_cases h0 : N = 0
                · subst h0
                  obtain ⟨b1, b2⟩ := HL.out rfl
                  have hx := u8_ofNat tb b1 b2
                  obtain ⟨x, hxx⟩ : ∃ x, UInt8.ofNat tb.toNat = x := ⟨_, rfl⟩
                  have hap : app s.data.toList ⟨(D : Int), ((0 : Nat) : Int), tb⟩ = s.data.toList ++ [x] := by
                    unfold app
                    show (if ((0 : Nat) : Int) = 0 then _ else _) = _
                    rw [if_pos (show ((0 : Nat) : Int) = 0 from rfl)]
                    show _ ++ [UInt8.ofNat tb.toNat] = _
                    rw [hxx]
                  rw [hxx] at hx
                  obtain rfl : tb = (x.toNat : Int) := hx.symm
                  have HAP := Lib.hid hap
                  clear hx hxx hap HL H6
                  have hadd : ∀ v : World, (Op.stringOp .add s ⟨#[x]⟩).run Tryz.prog v = .ok (.string (s ++ ⟨#[x]⟩)) v := fun v => run_string_add_sum v s _ (by rw [show (⟨#[x]⟩ : ByteArray).size = 1 from rfl]; omega)
                  have hcv := conv_byte x w1
                  have hsz : (s ++ (⟨#[x]⟩ : ByteArray)).size = s.size + 1 := ByteArray.size_append
                  have HSZ := Lib.hid hsz
                  clear hsz
                  go_wp2_with fail
                  clear hadd hcv
                  go_roundw
                  case rel => exact ⟨k + 1, s ++ ⟨#[x]⟩, by omega, by go_num, by have := HSZ.out; omega, rfl, by rw [ba_append_list, one_byte, ← HAP.out]; exact HEX.out, HU1.out.trans (Up.alloc _ _)⟩
                  case measure => simp only [intOf]; omega
                · have hD1 : 1 ≤ D := by have := H6.out (by omega); omega
                  have g4 : ((N : Int) == 0) = false := by rw [beq_eq_false_iff_ne]; omega
                  have hct := copy_text s D N tb hD1 (by omega) (by omega)
                  have hrs := repeat_size s D N hD1 (by omega)
                  have r1 := str_from s ((s.size : Int) - (D : Int)) (s.size - D) (by omega) (by omega)
                  have hfs : (s.extract (s.size - D) s.size).size = D := by rw [ByteArray.size_extract]; omega
                  obtain ⟨f, hf⟩ : ∃ f, s.extract (s.size - D) s.size = f := ⟨_, rfl⟩
                  rw [hf] at r1 hct hrs hfs
                  have hq64 := Nat.div_le_self N D
                  obtain ⟨q, hq⟩ : ∃ q, N / D = q := ⟨_, rfl⟩
                  rw [hq] at hct hrs hq64
                  obtain ⟨T, hT⟩ : ∃ T : ByteArray, (⟨(Lib.repeatL f.data.toList (q + 1)).toArray⟩ : ByteArray) = T := ⟨_, rfl⟩
                  rw [hT] at hct hrs
                  have r2 := str_to T (N : Int) N rfl hrs
                  have hts : (T.extract 0 N).size = N := extract_size T N hrs
                  obtain ⟨U, hU⟩ : ∃ U, T.extract 0 N = U := ⟨_, rfl⟩
                  rw [hU] at r2 hct hts
                  have hadd : ∀ v : World, (Op.stringOp .add s U).run Tryz.prog v = .ok (.string (s ++ U)) v := fun v => run_string_add_sum v s _ (by rw [hts]; omega)
                  have hsz : (s ++ U).size = s.size + N := by rw [ByteArray.size_append, hts]
                  have HSZ := Lib.hid hsz
                  have HCT := Lib.hid hct
                  have HFS := Lib.hid hfs
                  have HTT := Lib.hid hT
                  have g5 : ((D : Int) == 0) = false := by rw [beq_eq_false_iff_ne]; omega
                  obtain ⟨hq1, hq2, hq3⟩ := quo_run N D q hq (by omega)
                  have hD0 : ¬ D = 0 := by omega
                  have p1 : IntKind.i64.wrap ((q : Int) + 1) = (q : Int) + 1 := IntWalk.i64_in _ (by omega)
                  have hqN : q ≤ 64 := by omega
                  clear hsz hct hfs hT hf hU hts hrs hq HL H6
                  go_wp2_with fail
                  go_region_held3 (fun W => W.cell? ⟨wr.heap.size, 0, none⟩ = some (.int .i64 (D : Int)) ∧ W.cell? ⟨wr.heap.size, 1, none⟩ = some (.int .i64 (N : Int))) (go_keep) (first
                    | (go_at_call 46; refine (Tryz.strings_Repeat f (q + 1) _ (by omega) (by rw [HFS.out]; exact Nat.le_trans (Nat.mul_le_mul (show D ≤ 600 by omega) (show q + 1 ≤ 65 by omega)) (by decide))).mono ?_; rintro e w2 ⟨rfl, u2⟩; rw [HTT.out]; have f0 := (Below.cell u2 (p := ⟨wr.heap.size, 0, none⟩) hlt1).trans c0; have f1 := (Below.cell u2 (p := ⟨wr.heap.size, 1, none⟩) hlt1).trans c1; have U2 := Lib.hid u2; clear u2))
                  all_goals
                    clear hadd r1 r2 hq1 hq2 hq3 p1
                    go_wp2_with fail
                    go_roundw
                    case rel => exact ⟨k + 1, s ++ U, by omega, by go_num, by have := HSZ.out; omega, rfl, by rw [HCT.out]; exact HEX.out, HU1.out.trans (Up.trans (Up.drewN _ _) U2.out)⟩
                    case measure => simp only [intOf]; omega
    · have d1 : decide (k < l.length) = false := decide_eq_false hlt
      rw [List.drop_of_length_le (by omega), exp_nil] at hex
      subst hex
      go_wp2_with fail
      go_ret2
      exact ⟨by rw [ba_same]; rfl, hu⟩

end Go.Proofs.YtloiciinmdmdkaaGreatDoor
