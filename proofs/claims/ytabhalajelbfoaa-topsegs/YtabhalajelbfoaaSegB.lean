/-
  What size, checkRec, checkSegment and Check of package seg return. Conditions: the slices can be read; a sum that fits.
-/
import Derived.Test.YtabhalajelbfoaaSegA
import Derived.Lib.Hide
namespace Go.Proofs.Ytabhalajelbfoaa
open Go.RowKit
open Go.Proofs
open WoolBag
open WoolSeg

theorem takes_le {s : List Rc} (h : ∀ r ∈ s, r.2.length ≤ 64) : takes s ≤ s.length * 72 := by
  induction s with
  | nil => simp [takes]
  | cons r s ih =>
    rw [takes_cons, List.length_cons]
    have := h r (List.mem_cons_self ..)
    have := ih fun x hx => h x (List.mem_cons_of_mem _ hx)
    omega

theorem takes_step {s : List Rc} {k : Nat} (h : k < s.length) : takes (s.take (k + 1)) = takes (s.take k) + (8 + s[k].2.length) := by
  rw [List.take_succ_eq_append_getElem h, takes_append, takes_cons, takes_nil]; omega

theorem takes_take (s : List Rc) (k : Nat) : takes (s.take k) ≤ takes s := takes_sublist (List.take_sublist k s)

def SzRel (s : List Rc) (w : World) (n i : Value) (wr : World) : Prop :=
  ∃ k : Nat, k ≤ s.length ∧ i = .int .i64 (k : Int) ∧ n = .int .i64 ((takes (s.take k) : Nat) : Int) ∧ Up w wr

set_option maxRecDepth 100000 in
set_option maxHeartbeats 1000000 in
theorem size_any (v : Value) (s : List Rc) (w : World) (h : Recs w v s) (ht : takes s ≤ 4611686018427387904) :
    Calls Try.prog 47 #[v] w fun e w' => e = .returned (.int .i64 ((takes s : Nat) : Int)) ∧ Up w w' := by
  have HX := Lib.hid h
  obtain ⟨o, c, rfl, h2, h3⟩ := h.slice
  unfold maxLen at h3
  obtain ⟨T, hT⟩ : ∃ T, takes s = T := ⟨_, rfl⟩
  rw [hT] at ht ⊢
  have HT := Lib.hid hT
  clear h hT
  go_enter Try.func47, Try.ntmps47
  go_wp2_with fail
  go_loopw [3, 8] (fun n i wr => SzRel s w n i wr) (fun _ i _ => s.length - (intOf i).toNat)
  case atStart => exact ⟨0, Nat.zero_le _, rfl, rfl, Up.refl w⟩
  case round =>
    obtain ⟨k, hk, rfl, rfl, hu⟩ := hrel
    by_cases hlt : k < s.length
    · obtain ⟨b, off, rfl, hat⟩ := HX.out.at (by rintro rfl; simp at hlt)
      obtain ⟨a0, a1, a2, a3⟩ := hat k hlt
      rw [← hu.cell (World.block_lt_of_cell? w _ a0)] at a0
      rw [← hu.cell (World.block_lt_of_cell? w _ a1)] at a1
      rw [← hu.cell (World.block_lt_of_cell? w _ a2)] at a2
      rw [← hu.cell (World.block_lt_of_cell? w _ a3)] at a3
      have hst := takes_step hlt
      have hle := takes_take s (k + 1)
      rw [HT.out] at hle
      have hsz := bs_size s[k].2
      have d1 : decide (k < s.length) = true := decide_eq_true hlt
      have HU := Lib.hid hu
      obtain ⟨q, hq⟩ : ∃ q, takes (s.take k) = q := ⟨_, rfl⟩
      obtain ⟨q1, hq1⟩ : ∃ q1, takes (s.take (k + 1)) = q1 := ⟨_, rfl⟩
      have HQ1 := Lib.hid hq1
      rw [hq, hq1] at hst
      rw [hq1] at hle
      rw [hq]
      generalize s[k].1.1 = x0 at a0
      generalize s[k].1.2.1 = x1 at a1
      generalize s[k].1.2.2 = x2 at a2
      obtain ⟨L, hL⟩ : ∃ L, s[k].2.length = L := ⟨_, rfl⟩
      rw [hL] at hst hsz
      generalize bs s[k].2 = x3 at a3 hsz
      have p1 : IntKind.i64.wrap (8 + (x3.size : Int)) = ((8 + L : Nat) : Int) := by rw [hsz, show (8 : Int) + (L : Int) = ((8 + L : Nat) : Int) by omega]; exact IntWalk.i64_in _ (by omega)
      have p2 : IntKind.i64.wrap ((q : Int) + ((8 + L : Nat) : Int)) = (q1 : Int) := by rw [show (q : Int) + ((8 + L : Nat) : Int) = (q1 : Int) by omega]; exact IntWalk.i64_in _ (by omega)
      clear hu hat hq hq1 hL
      go_wp2_with fail
      go_roundw
      case rel => exact ⟨k + 1, by omega, by go_num, congrArg (Value.int IntKind.i64) (by rw [HQ1.out]; omega), HU.out.trans (Up.alloc _ _)⟩
      case measure => simp only [intOf]; omega
    · have d1 : decide (k < s.length) = false := decide_eq_false hlt
      have hks : s.take k = s := List.take_of_length_le (by omega)
      rw [hks, HT.out]
      clear hks
      go_wp2_with fail
      go_ret
      exact ⟨rfl, hu⟩

set_option maxRecDepth 100000 in
set_option maxHeartbeats 1000000 in
theorem checkRec_any (r : Rc) (w : World) : Calls Try.prog 21 #[rcA r] w fun e w' => e = .returned (.int .i64 (errR r)) ∧ Up w w' := by
  have hsz := bs_size r.2
  unfold rcA errR
  obtain ⟨⟨is, s, n⟩, t⟩ := r
  simp only at hsz ⊢
  by_cases h2 : 64 < t.length
  · rw [← hsz] at h2 ⊢
    generalize bs t = x at h2 ⊢
    have g2 : (64 < x.size) = True := eq_true h2
    cases is
    · clear hsz
      go_enter Try.func21, Try.ntmps21
      go_wp2_with fail
      go_ret
      exact ⟨by simp, Up.alloc _ _⟩
    · clear hsz
      go_enter Try.func21, Try.ntmps21
      go_wp2_with fail
      go_ret
      exact ⟨by first | (simp; done) | (simp [g2]; done), Up.alloc _ _⟩
  · rw [← hsz] at h2 ⊢
    generalize bs t = x at h2 ⊢
    have g2 : (64 < x.size) = False := eq_false h2
    cases is
    · clear hsz
      go_enter Try.func21, Try.ntmps21
      go_wp2_with fail
      go_ret
      exact ⟨by simp, Up.alloc _ _⟩
    · clear hsz
      go_enter Try.func21, Try.ntmps21
      go_wp2_with fail
      go_ret
      exact ⟨by first | (simp; done) | (simp [g2]; done), Up.alloc _ _⟩

def SkRel (s : List Rc) (w : World) (i : Value) (wr : World) : Prop :=
  ∃ k : Nat, k ≤ s.length ∧ i = .int .i64 (k : Int) ∧ Up w wr ∧ errRs s = errRs (s.drop k) ∧ ∀ j (h : j < s.length), j < k → errR s[j] = 0

theorem errS_go {s : List Rc} (hn : s ≠ []) (h : errRs s ≠ 0) : errS s = errRs s := by unfold errS; rw [if_neg hn, if_pos h]
theorem errS_end {s : List Rc} (hn : s ≠ []) (h : errRs s = 0) : errS s = if 200 < takes s then 2 else 0 := by unfold errS; rw [if_neg hn, if_neg (by simp [h])]

set_option maxRecDepth 100000 in
set_option maxHeartbeats 2000000 in
theorem checkSegment_any (v : Value) (s : List Rc) (w : World) (h : Recs w v s) (hm : s.length ≤ 1000000000000000) :
    Calls Try.prog 34 #[v] w fun e w' => e = .returned (.int .i64 (errS s)) ∧ Up w w' := by
  have HX := Lib.hid h
  obtain ⟨o, c, rfl, h2, h3⟩ := h.slice
  unfold maxLen at h3
  by_cases hn : s = []
  · subst hn
    rw [show errS [] = 3 by rfl]
    clear h HX
    go_enter Try.func34, Try.ntmps34
    go_wp2_with fail
    go_ret
    exact ⟨rfl, Up.refl _⟩
  have hpos : 0 < s.length := List.length_pos_iff.2 hn
  have HSZ : Hid (∀ W, Up w W → (∀ r ∈ s, errR r = 0) → Calls Try.prog 47 #[.slice o s.length c] W fun e w' => e = .returned (.int .i64 ((takes s : Nat) : Int)) ∧ Up W w') := fun W hW hr => by
    refine size_any _ s W (h.up hW) ?_
    have := takes_le (s := s) fun r hx => (errR_zero.1 (hr r hx)).2
    omega
  obtain ⟨E, hE⟩ : ∃ E, errS s = E := ⟨_, rfl⟩
  rw [hE]
  have HE := Lib.hid hE
  have HN := Lib.hid hn
  have d0 : ((s.length : Int) == 0) = false := by simp; omega
  clear h hE hn
  go_enter Try.func34, Try.ntmps34
  go_wp2_with fail
  go_loopw [11] (fun i wr => SkRel s w i wr) (fun i _ => s.length - (intOf i).toNat)
  case atStart => exact ⟨0, Nat.zero_le _, rfl, Up.refl w, rfl, fun j _ hj => absurd hj (by omega)⟩
  case round =>
    obtain ⟨k, hk, rfl, hu, hck, hok⟩ := hrel
    by_cases hlt : k < s.length
    · obtain ⟨b, off, rfl, hat⟩ := HX.out.at (by rintro rfl; simp at hlt)
      obtain ⟨a0, a1, a2, a3⟩ := hat k hlt
      rw [← hu.cell (World.block_lt_of_cell? w _ a0)] at a0
      rw [← hu.cell (World.block_lt_of_cell? w _ a1)] at a1
      rw [← hu.cell (World.block_lt_of_cell? w _ a2)] at a2
      rw [← hu.cell (World.block_lt_of_cell? w _ a3)] at a3
      rw [List.drop_eq_getElem_cons hlt, errRs] at hck
      have HCR := Lib.hid (fun W => checkRec_any s[k] W)
      unfold rcA at HCR
      have hfin : errR s[k] ≠ 0 → E = errR s[k] := fun hne => by
        rw [if_pos hne] at hck
        rw [← HE.out, errS_go HN.out (by rw [hck]; exact hne), hck]
      have hgo : ∀ wF, Up wr wF → errR s[k] = 0 → SkRel s w (.int .i64 ((k + 1 : Nat) : Int)) wF := fun wF hF he => by
        rw [if_neg (by simp [he])] at hck
        refine ⟨k + 1, by omega, rfl, hu.trans hF, hck, fun j hj hjk => ?_⟩
        rcases Nat.lt_or_ge j k with h | h
        · exact hok j hj h
        · obtain rfl : j = k := by omega
          exact he
      have HFIN := Lib.hid hfin
      have HGO := Lib.hid hgo
      have hrr := errR_range s[k]
      obtain ⟨R, hR⟩ : ∃ R, errR s[k] = R := ⟨_, rfl⟩
      rw [hR] at HFIN HGO HCR hrr
      generalize s[k].1.1 = x0 at a0 HCR
      generalize s[k].1.2.1 = x1 at a1 HCR
      generalize s[k].1.2.2 = x2 at a2 HCR
      generalize bs s[k].2 = x3 at a3 HCR
      have d1 : decide (k < s.length) = true := decide_eq_true hlt
      have HU := Lib.hid hu
      clear hu hat hck hok hfin hgo hR
      go_wp2_with fail
      refine (HCR.out _).mono ?_
      rintro e w2 ⟨rfl, u2⟩
      have HU2 : Hid (Up wr w2) := (Up.alloc _ _).trans u2
      clear u2
      by_cases h0 : R = 0
      · subst h0
        have hr := HGO.out _ HU2.out rfl
        have HR := Lib.hid hr
        clear hr hrr
        go_wp2_with fail
        go_roundw
        case rel => have := HR.out; simpa using this
        case measure => simp only [intOf]; omega
      · have hne : (R != 0) = true := by rw [bne_iff_ne]; exact h0
        have HER := Lib.hid (HFIN.out h0)
        clear hrr h0
        go_wp2_with fail
        go_ret
        exact ⟨by rw [HER.out]; rfl, HU.out.trans HU2.out⟩
    · have d1 : decide (k < s.length) = false := decide_eq_false hlt
      have hke : k = s.length := by omega
      rw [List.drop_of_length_le (by omega)] at hck
      have HRS := Lib.hid (errS_end HN.out (show errRs s = 0 from hck))
      have HAL : Hid (∀ r ∈ s, errR r = 0) := fun r hr => by
        obtain ⟨j, hj, rfl⟩ := List.getElem_of_mem hr
        exact hok j hj (by omega)
      have HTK := Lib.hid (takes_le (s := s) fun r hx => (errR_zero.1 (HAL.out r hx)).2)
      have HU := Lib.hid hu
      clear hck hok hke hu
      go_wp2_with fail
      refine (HSZ.out _ HU.out HAL.out).mono ?_
      rintro e w2 ⟨rfl, u2⟩
      have HU2 : Hid (Up w w2) := HU.out.trans u2
      clear u2
      have hrs := HRS.out
      rw [HE.out] at hrs
      obtain ⟨T, hT⟩ : ∃ T, takes s = T := ⟨_, rfl⟩
      have htk := HTK.out
      rw [hT] at hrs htk ⊢
      by_cases ht : 200 < T
      · rw [if_pos ht] at hrs
        have HR := Lib.hid hrs
        clear hrs hT
        go_wp2_with fail
        go_ret
        exact ⟨by rw [HR.out]; rfl, HU2.out⟩
      · rw [if_neg ht] at hrs
        have HR := Lib.hid hrs
        clear hrs hT
        go_wp2_with fail
        go_ret
        exact ⟨by rw [HR.out]; rfl, HU2.out⟩

def CkRel (l : List (List Rc)) (w : World) (i : Value) (wr : World) : Prop :=
  ∃ k : Nat, k ≤ l.length ∧ i = .int .i64 (k : Int) ∧ Up w wr ∧ errSs l = errSs (l.drop k)

set_option maxRecDepth 100000 in
set_option maxHeartbeats 2000000 in
theorem checkSg_any (v : Value) (l : List (List Rc)) (w : World) (h : Sgs w v l) (hm : ∀ s ∈ l, s.length ≤ 1000000000000000) :
    Calls Try.prog 14 #[v] w fun e w' => e = .returned (.int .i64 (WoolSeg.chk l)) ∧ Up w w' := by
  have HX := Lib.hid h
  obtain ⟨o, c, rfl, h2, h3⟩ := h.slice
  unfold maxLen at h3
  by_cases hbig : 16 < l.length
  · have hv : WoolSeg.chk l = 2 := by unfold WoolSeg.chk; rw [if_pos hbig]
    rw [hv]
    clear h hv HX hm
    go_enter Try.func14, Try.ntmps14
    go_wp2_with fail
    go_ret
    exact ⟨rfl, Up.refl _⟩
  have hv : WoolSeg.chk l = errSs l := by unfold WoolSeg.chk; rw [if_neg hbig]
  rw [hv]
  obtain ⟨E, hE⟩ : ∃ E, errSs l = E := ⟨_, rfl⟩
  rw [hE]
  have HE := Lib.hid hE
  have HM := Lib.hid hm
  clear h hv hE hm
  go_enter Try.func14, Try.ntmps14
  go_wp2_with fail
  go_loopw [11] (fun i wr => CkRel l w i wr) (fun i _ => l.length - (intOf i).toNat)
  case atStart => exact ⟨0, Nat.zero_le _, rfl, Up.refl w, rfl⟩
  case round =>
    obtain ⟨k, hk, rfl, hu, hck⟩ := hrel
    by_cases hlt : k < l.length
    · obtain ⟨b, off, rfl, hat⟩ := HX.out.at (by rintro rfl; simp at hlt)
      obtain ⟨x, a0, hx⟩ := hat k hlt
      rw [← hu.cell (World.block_lt_of_cell? w _ a0)] at a0
      rw [List.drop_eq_getElem_cons hlt, errSs] at hck
      have HCS := Lib.hid (fun W (hW : Up w W) => checkSegment_any x l[k] W (hx.up hW) (HM.out _ (List.getElem_mem hlt)))
      have hrr := errS_range l[k]
      obtain ⟨R, hR⟩ : ∃ R, errS l[k] = R := ⟨_, rfl⟩
      rw [hR] at hck HCS hrr
      have HCK := Lib.hid hck
      have d1 : decide (k < l.length) = true := decide_eq_true hlt
      have HU := Lib.hid hu
      obtain ⟨o', c', hxe, _, _⟩ := hx.slice
      generalize l[k].length = m at hxe
      subst hxe
      clear hu hat hck hR hx
      go_wp2_with fail
      refine (HCS.out _ HU.out).mono ?_
      rintro e w2 ⟨rfl, u2⟩
      have HU2 : Hid (Up w w2) := HU.out.trans u2
      have hck := HCK.out
      clear u2
      by_cases h0 : R = 0
      · subst h0
        rw [if_neg (by simp)] at hck
        have HR := Lib.hid hck
        clear hck hrr
        go_wp2_with fail
        go_roundw
        case rel => exact ⟨k + 1, by omega, by go_num, HU2.out, HR.out⟩
        case measure => simp only [intOf]; omega
      · have hne : (R != 0) = true := by rw [bne_iff_ne]; exact h0
        rw [if_pos h0] at hck
        have HER := Lib.hid (HE.out.symm.trans hck)
        clear hrr h0 hck
        go_wp2_with fail
        go_ret
        exact ⟨by rw [HER.out]; rfl, HU2.out⟩
    · have d1 : decide (k < l.length) = false := decide_eq_false hlt
      rw [List.drop_of_length_le (by omega)] at hck
      have HER : Hid (E = 0) := HE.out.symm.trans hck
      clear hck
      go_wp2_with fail
      go_ret
      exact ⟨by rw [HER.out]; rfl, hu⟩

theorem Right.small {l : List (List Rc)} (h : Right l) : ∀ s ∈ l, s.length ≤ 1000000000000000 := fun s hs => by
  have h1 := (h.seg s hs).room
  have := takes_len s
  omega

theorem checkSg_right (v : Value) (l : List (List Rc)) (w : World) (h : Sgs w v l) (hr : Right l) :
    Calls Try.prog 14 #[v] w fun e w' => e = .returned (.int .i64 0) ∧ Up w w' := by
  have := checkSg_any v l w h (Right.small hr)
  rw [chk_zero.2 hr] at this
  exact this

end Go.Proofs.Ytabhalajelbfoaa
