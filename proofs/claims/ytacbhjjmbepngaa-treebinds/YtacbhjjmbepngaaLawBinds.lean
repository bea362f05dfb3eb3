/-
  woolkeep.leads: all that is said on the way up. Conditions: as each says.
-/
import Derived.Test.YtacbhjjmbepngaaLawTree1
namespace Go.Proofs.Ytacbhjjmbepngaa
open Go.RowKit
open Go.Proofs
open WoolTree

theorem of_bs2 (s : List UInt8) (W : World) (h : s.length ≤ 600) : Calls Try.prog 33 #[.int .i64 1073741907, .string (bs s)] W fun e w' => e = .returned (.tuple #[.int .i64 ((TH s : Nat) : Int), .int .i64 0]) ∧ Up W w' := by
  have h := of_ok 1073741907 (bs s) W (by omega) (by omega) (by rw [bs_size]; exact h)
  rw [bs_list] at h
  exact h

/-- a slice of texts of the call's own -/
def OTx (w : World) (base : Nat) (v : Value) (l : List (List UInt8)) : Prop := w.ownsRow base 9 1 v l.length (fl txC l)
theorem OTx.txs {w : World} {base : Nat} {v : Value} {l : List (List UInt8)} (h : OTx w base v l) : Txs w v l := Sl.of_own h
theorem OTx.up {w w' : World} {base : Nat} {v : Value} {l : List (List UInt8)} (h : OTx w base v l) (hu : Up w w') : OTx w' base v l := own_upT h hu

theorem otx_append {w' : World} {base n : Nat} {v' : Value} {l : List (List UInt8)} {x : List UInt8} (hn : l.length = n) (h : w'.ownsRow base 9 1 v' (n + 1) (fl txC l ++ [.string (bs x)])) : OTx w' base v' (l ++ [x]) := by
  unfold OTx
  rw [fl_append, List.length_append, hn, fl_one1]
  exact h

def LdRel (l : List (Bool × Int)) (p : List UInt8) (w : World) (out i : Value) (wr : World) : Prop :=
  ∃ (k : Nat) (P : List (List UInt8)) (q : List UInt8), k ≤ l.length ∧ i = .int .i64 (k : Int) ∧ ch TH p l = P ++ ch TH q (l.drop k) ∧ P.length = k ∧ q.length ≤ 65 ∧ OTx wr w.heap.size out (P ++ [q]) ∧ Up w wr

def LdPost (l : List (Bool × Int)) (s : List UInt8) (w : World) (e : Ending) (w' : World) : Prop := ∃ v, e = .returned v ∧ OTx w' w.heap.size v (ch TH (lf s) l) ∧ Up w w'

theorem ch_drop (l : List (Bool × Int)) (q : List UInt8) (k : Nat) (h : k < l.length) : ch TH q (l.drop k) = q :: ch TH (nx (TH q) l[k]) (l.drop (k + 1)) := by
  rw [List.drop_eq_getElem_cons h, ch]

set_option maxRecDepth 100000 in
set_option maxHeartbeats 2000000 in
theorem leads_any (s : List UInt8) (v : Value) (l : List (Bool × Int)) (w : World) (h : Stps w v l) (hs : s.length ≤ 64) (h5 : l.length ≤ 5) (hl : ∀ x ∈ l, 0 ≤ x.2 ∧ x.2 ≤ 2147483647) :
    Calls Try.prog 32 #[.string (bs s), v] w (LdPost l s w) := by
  have H := Lib.hid h
  have HL := Lib.hid hl
  obtain ⟨o, c, rfl, _, _⟩ := h.slice
  obtain ⟨n, hn⟩ : ∃ n, l.length = n := ⟨_, rfl⟩
  have HN := Lib.hid hn
  rw [hn] at H h5 ⊢
  have hadd : ∀ v : World, (Op.stringOp .add ⟨#[108]⟩ (bs s)).run Try.prog v = .ok (.string (bs (lf s))) v := add_bs [108] s (by simp; omega)
  have hp65 : (lf s).length ≤ 65 := by unfold lf; rw [List.length_cons]; omega
  obtain ⟨p, hp⟩ : ∃ p, lf s = p := ⟨_, rfl⟩
  unfold LdPost
  rw [hp] at hadd hp65 ⊢
  have HO : Hid (OTx (w.alloc (.cells #[.string (bs p)] 9)) w.heap.size (.slice (some ⟨w.heap.size, 0, none⟩) 1 1) [p]) := World.ownsRow_lit w _ 1 (Nat.le_refl _) (by unfold maxLen; omega) rfl
  obtain ⟨i0, hi, hz0, hz1, hz2⟩ := info_parts (show (Try.prog.info? 9).map (fun i => (i.zero, i.size, i.bytes)) = some (some (.string ⟨#[]⟩), 1, 16) by kernel_rfl)
  have HI := Lib.hid hi
  have HZ0 := Lib.hid hz0
  have HZ1 := Lib.hid hz1
  have HZ2 := Lib.hid hz2
  clear h hl hn hp hi hz0 hz1 hz2
  go_enter Try.func32, Try.ntmps32
  go_wp2_with fail
  go_loopw [5, 7, 8, 9, 15] (fun out _ _ _ i wr => LdRel l p w out i wr) (fun _ _ _ _ i _ => n - (intOf i).toNat)
  case atStart => exact ⟨0, [], p, Nat.zero_le _, rfl, rfl, rfl, hp65, HO.out, Up.alloc _ _⟩
  case round =>
    obtain ⟨k, P, q, hk, rfl, hch, hP, hq, hown, hu⟩ := hrel
    have HU := Lib.hid hu
    have HOWN := Lib.hid hown
    have HPL := Lib.hid hP
    rw [HN.out] at hk
    by_cases hlt : k < n
    · have dk : decide (k < n) = true := decide_eq_true hlt
      have hkl : k < l.length := by rw [HN.out]; exact hlt
      obtain ⟨b, off, rfl, hat⟩ := (H.out.up hu).at (fun e => by rw [e] at hkl; simp at hkl)
      obtain ⟨q1, q2⟩ := hat k hkl
      obtain ⟨y0, y1⟩ := HL.out _ (List.getElem_mem hkl)
      rw [ch_drop l q k hkl] at hch
      generalize l[k] = st at *
      obtain ⟨lt, y⟩ := st
      simp only at q1 q2 y0 y1
      obtain ⟨Y, rfl⟩ := Int.eq_ofNat_of_zero_le y0
      have hx4 := TH_lt q
      have HOF := Lib.hid (fun W => of_bs2 q W (by omega))
      have hnl := nx_length (TH q) (lt, (Y : Int))
      obtain ⟨ov, cv, hv5, hv6, hv7⟩ := hown.txs.slice
      subst hv5
      have hlen1 : (P ++ [q]).length = k + 1 := by rw [List.length_append, hP]; rfl
      rw [hlen1] at hv6 HOWN ⊢
      obtain ⟨g, fo, eg, hat2⟩ := (show Txs wr (.slice ov (k + 1) cv) (P ++ [q]) by rw [← hlen1]; exact hown.txs).at (by simp)
      have q3 := hat2 k (by rw [hlen1]; omega)
      have e5 : (P ++ [q])[k]'(by rw [hlen1]; omega) = q := by simp [hP]
      rw [e5] at q3
      have e6 : ((k + 1 : Nat) : Int) - 1 = (k : Int) := by omega
      subst eg
      cases lt with
      | true =>
        have hnx : nx (TH q) (true, (Y : Int)) = pr Y (TH q) := by unfold nx; simp
        rw [hnx] at hch hnl
        have HSD := Lib.hid (fun W => refSaid_any Y (TH q) W (by omega) (by omega))
        generalize TH q = N at *
        generalize pr Y N = Q at *
        have HCH := Lib.hid hch
        have hgl : g < wr.heap.size := World.block_lt_of_cell? wr _ q3
        have hgn : g ≠ wr.heap.size := by omega
        have b0 := World.cell?_alloc_new wr #[.bool true, .int .i64 (Y : Int)] 33 0
        have b1 := World.cell?_alloc_new wr #[.bool true, .int .i64 (Y : Int)] 33 1
        have b2 : wr.heap.size < (wr.alloc (.cells #[.bool true, .int .i64 (Y : Int)] 33)).heap.size := by simp
        have hpc : P.length + 1 ≤ 6 := by omega
        clear hat hat2 hch hnx hown hu hP hlen1 e5 y0
        go_wp2_with fail
        refine (HOF.out _).mono ?_
        rintro e w3 ⟨rfl, u3⟩
        have f0 := (Below.cell u3 (p := ⟨wr.heap.size, 0, none⟩) b2).trans b0
        have f1 := (Below.cell u3 (p := ⟨wr.heap.size, 1, none⟩) b2).trans b1
        have HU3 := Lib.hid (HU.out.trans ((Up.alloc wr _).trans u3))
        have HO3 := Lib.hid (HOWN.out.up ((Up.alloc wr _).trans u3))
        clear u3 b0 b1
        go_wp2_with fail
        refine (HSD.out _).mono ?_
        rintro e w4 ⟨rfl, u4⟩
        have HU4 := Lib.hid (HU3.out.trans u4)
        have HO4 := Lib.hid (HO3.out.up u4)
        have hs4 := HU4.out.size
        clear u4 f0 f1
        have HO5 : Hid ((w4.alloc (.cells #[.string (bs Q)] 9)).ownsRow w.heap.size 9 1 (.slice (some ⟨g, fo, none⟩) (k + 1) cv) (k + 1) (fl txC (P ++ [q]))) := by
          have := World.ownsRow.alloc HO4.out (.cells #[.string (bs Q)] 9)
          rw [List.length_append, HPL.out] at this
          exact this
        go_wp2_with (at_builtin; refine wpList_append_own _ rfl _ _ 22 rfl w.heap.size 9 i0 (.string ⟨#[]⟩) 1 16 Try.underlying22 HI.out HZ0.out HZ1.out HZ2.out rfl (by decide) _ _ _ rfl HO5.out ⟨w4.heap.size, 0, none⟩ 1 1 [.string (bs Q)] rfl rfl (cell_one_new _ _ _) (one_mem' _ rfl) (by unfold maxLen; omega) (by omega) (by simp; omega) ?_)
        intro v' w5 hown' hgrow _
        have HB5 := Lib.hid (otx_append (by rw [List.length_append, HPL.out]; rfl) hown')
        have HU5 := Lib.hid (grown_up' (HU4.out.trans (Up.alloc _ _)) HO5.out hgrow)
        clear hown' hgrow
        go_wp2_with fail
        go_roundw
        case rel => exact ⟨k + 1, P ++ [q], Q, hkl, by go_num, by rw [HCH.out, List.append_assoc]; rfl, by rw [List.length_append, HPL.out]; rfl, by omega, HB5.out, HU5.out⟩
        case measure => simp only [intOf]; omega
      | false =>
        have hnx : nx (TH q) (false, (Y : Int)) = pr (TH q) Y := by unfold nx; simp
        rw [hnx] at hch hnl
        have HSD := Lib.hid (fun W => refSaid_any (TH q) Y W (by omega) (by omega))
        generalize TH q = N at *
        generalize pr N Y = Q at *
        have HCH := Lib.hid hch
        have hgl : g < wr.heap.size := World.block_lt_of_cell? wr _ q3
        have hgn : g ≠ wr.heap.size := by omega
        have b0 := World.cell?_alloc_new wr #[.bool false, .int .i64 (Y : Int)] 33 0
        have b1 := World.cell?_alloc_new wr #[.bool false, .int .i64 (Y : Int)] 33 1
        have b2 : wr.heap.size < (wr.alloc (.cells #[.bool false, .int .i64 (Y : Int)] 33)).heap.size := by simp
        have hpc : P.length + 1 ≤ 6 := by omega
        clear hat hat2 hch hnx hown hu hP hlen1 e5 y0
        go_wp2_with fail
        refine (HOF.out _).mono ?_
        rintro e w3 ⟨rfl, u3⟩
        have f0 := (Below.cell u3 (p := ⟨wr.heap.size, 0, none⟩) b2).trans b0
        have f1 := (Below.cell u3 (p := ⟨wr.heap.size, 1, none⟩) b2).trans b1
        have HU3 := Lib.hid (HU.out.trans ((Up.alloc wr _).trans u3))
        have HO3 := Lib.hid (HOWN.out.up ((Up.alloc wr _).trans u3))
        clear u3 b0 b1
        go_wp2_with fail
        refine (HSD.out _).mono ?_
        rintro e w4 ⟨rfl, u4⟩
        have HU4 := Lib.hid (HU3.out.trans u4)
        have HO4 := Lib.hid (HO3.out.up u4)
        have hs4 := HU4.out.size
        clear u4 f0 f1
        have HO5 : Hid ((w4.alloc (.cells #[.string (bs Q)] 9)).ownsRow w.heap.size 9 1 (.slice (some ⟨g, fo, none⟩) (k + 1) cv) (k + 1) (fl txC (P ++ [q]))) := by
          have := World.ownsRow.alloc HO4.out (.cells #[.string (bs Q)] 9)
          rw [List.length_append, HPL.out] at this
          exact this
        go_wp2_with (at_builtin; refine wpList_append_own _ rfl _ _ 22 rfl w.heap.size 9 i0 (.string ⟨#[]⟩) 1 16 Try.underlying22 HI.out HZ0.out HZ1.out HZ2.out rfl (by decide) _ _ _ rfl HO5.out ⟨w4.heap.size, 0, none⟩ 1 1 [.string (bs Q)] rfl rfl (cell_one_new _ _ _) (one_mem' _ rfl) (by unfold maxLen; omega) (by omega) (by simp; omega) ?_)
        intro v' w5 hown' hgrow _
        have HB5 := Lib.hid (otx_append (by rw [List.length_append, HPL.out]; rfl) hown')
        have HU5 := Lib.hid (grown_up' (HU4.out.trans (Up.alloc _ _)) HO5.out hgrow)
        clear hown' hgrow
        go_wp2_with fail
        go_roundw
        case rel => exact ⟨k + 1, P ++ [q], Q, hkl, by go_num, by rw [HCH.out, List.append_assoc]; rfl, by rw [List.length_append, HPL.out]; rfl, by omega, HB5.out, HU5.out⟩
        case measure => simp only [intOf]; omega
    · have dk : decide (k < n) = false := decide_eq_false hlt
      rw [List.drop_of_length_le (by rw [HN.out]; omega), ch] at hch
      rw [← hch] at hown
      have HO2 := Lib.hid hown
      obtain ⟨ov, cv, hv5, _, _⟩ := hown.txs.slice
      subst hv5
      clear hown hu hch HOWN hP
      go_wp2_with fail
      go_ret
      exact ⟨_, rfl, HO2.out, HU.out⟩

end Go.Proofs.Ytacbhjjmbepngaa
