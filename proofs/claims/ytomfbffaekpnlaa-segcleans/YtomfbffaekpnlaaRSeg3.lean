/-
  What the reference's Alive returns: the live records of each segment. Conditions: right segments, a bag that is one; the rows can be read.
-/
import Derived.Test.YtomfbffaekpnlaaSegL
import Derived.Test.YtomfbffaekpnlaaRefItm
namespace Go.Proofs.Ytomfbffaekpnlaa
open Go.RowKit
open Go.Proofs
open WoolBag
open WoolSeg

/-! ytomfbffaekpnlaa# plain -/

theorem used_none {b : List Itm} {r : Rc} (h : ixI (idB r.1) b = -1) : WoolSeg.used b r = false := by
  rw [Bool.eq_false_iff]
  intro hu
  obtain ⟨x, hx, e⟩ := used_iff.1 hu
  unfold ixI at h
  cases hi : idx (idB r.1) b with
  | some i => rw [hi] at h; simp at h
  | none =>
    have h1 : ¬ (b.any (idB r.1) = true) := by
      rw [any_iff, hi]
      simp
    refine h1 (List.any_eq_true.2 ⟨x, hx, ?_⟩)
    have h2 : idOf x = r.1 := congrArg Prod.fst e
    rw [← h2]
    unfold idB idOf
    simp

theorem used_at {b : List Itm} {r : Rc} (hb : Bag FP b) {q : Nat} (hq : q < b.length) (h : ixI (idB r.1) b = (q : Int)) : WoolSeg.used b r = (b[q].t == r.2) := by
  have hid : idB r.1 b[q] = true := by
    unfold ixI at h
    cases hi : idx (idB r.1) b with
    | none => rw [hi] at h; simp at h
    | some i =>
      rw [hi] at h
      have : i = q := by simp at h; omega
      subst this
      exact (idx_some hi).2.1
  have hid2 : idOf b[q] = r.1 := by
    obtain ⟨⟨x, s, n⟩, t⟩ := r
    unfold idB at hid
    unfold idOf
    simp at hid ⊢
    exact ⟨hid.1.1, hid.1.2, hid.2⟩
  rw [Bool.eq_iff_iff, used_iff, beq_iff_eq]
  constructor
  · rintro ⟨x, hx, e⟩
    obtain ⟨j, hj, rfl⟩ := List.getElem_of_mem hx
    have h1 : idOf b[j] = idOf b[q] := (congrArg Prod.fst e).trans hid2.symm
    have h2 := hb.id_inj hj hq h1
    subst h2
    exact congrArg Prod.snd e
  · intro e
    exact ⟨_, List.getElem_mem hq, Prod.ext hid2 e⟩

theorem ixI_cases (p : Itm → Bool) (b : List Itm) : ixI p b = -1 ∨ ∃ q, ∃ _ : q < b.length, ixI p b = (q : Int) := by
  unfold ixI
  cases hi : idx p b with
  | none => exact .inl rfl
  | some i => exact .inr ⟨i, (idx_some hi).1, rfl⟩

/-! ytomfbffaekpnlaa# walk -/

def AoRel (l : List (List Rc)) (b : List Itm) (W0 : World) (B2 g n : Nat) (i : Value) (wr : World) : Prop :=
  ∃ k : Nat, k ≤ n ∧ i = .int .i64 (k : Int) ∧ Up W0 wr ∧ (k < n → FoS W0 B2 g n (found b l k []) [] (.slice none 0 0) wr) ∧ (k = n → OSgs wr W0.heap.size (.slice (some ⟨g, 0, none⟩) n n) (alive b l))

def AiRel (l : List (List Rc)) (b : List Itm) (W0 : World) (B2 g n k : Nat) (s L : List Rc) (i : Value) (wr : World) : Prop :=
  ∃ (j : Nat) (pre : List Rc), j ≤ s.length ∧ i = .int .i64 (j : Int) ∧ aliveS b s L = pre ++ aliveS b (s.drop j) L ∧ pre.length ≤ j ∧ FoS W0 B2 g n (found b l k pre) [] (.slice none 0 0) wr

theorem AoRel.next {l : List (List Rc)} {b : List Itm} {W0 wr : World} {B2 g n k : Nat} {pre : List Rc} (hn : l.length = n) (hk : k < n) (hB : W0.heap.size ≤ B2) (hp : aliveS b (l[k]'(by omega)) (l.drop (k + 1)).flatten = pre) (h : FoS W0 B2 g n (found b l k pre) [] (.slice none 0 0) wr) : AoRel l b W0 B2 g n (.int .i64 ((k + 1 : Nat) : Int)) wr := by
  subst hn
  refine ⟨k + 1, by omega, rfl, h.up, fun hlt => ?_, fun he => ?_⟩
  · rw [← hp, found_next b l k hlt] at h
    exact h
  · rw [← hp, found_end b l k hk he] at h
    obtain ⟨C, h1, h2⟩ := h.out
    exact ⟨C, h1, h2.base hB⟩

/-- what stands behind, as far as it was looked at -/
def AlRel (x : Rc) (S : List Rc) (M : List (List Rc)) (W5 : World) (lt i : Value) (wr : World) : Prop :=
  ∃ j : Nat, j ≤ M.length ∧ i = .int .i64 (j : Int) ∧ lt = .bool ((S ++ (M.take j).flatten).contains x) ∧ Up W5 wr

theorem contains_step (x : Rc) (S : List Rc) (M : List (List Rc)) {j : Nat} (h : j < M.length) : (S ++ (M.take (j + 1)).flatten).contains x = ((S ++ (M.take j).flatten).contains x || M[j].contains x) := by
  rw [flat_step h, ← List.append_assoc, Bool.eq_iff_iff, Bool.or_eq_true, List.contains_iff_mem, List.contains_iff_mem, List.contains_iff_mem, List.mem_append]

/-- the segments from a place on -/
theorem Sgs.back {w : World} {b off : Nat} {n c : Nat} {l : List (List Rc)} (h : Sgs w (.slice (some ⟨b, off, none⟩) n c) l) (k : Nat) (hk : k ≤ l.length) : Sgs w (.slice (some ⟨b, off + k, none⟩) (l.length - k) (c - k)) (l.drop k) := by
  obtain ⟨C, h1, h2⟩ := h
  have hlen := h2.len
  refine ⟨C.drop k, ?_, ⟨by rw [List.length_drop, List.length_drop, hlen], fun j hj => ?_⟩⟩
  · obtain ⟨h0, o', c', e1, e2, e3, e4⟩ := h1
    simp only [Value.slice.injEq] at e1
    obtain ⟨rfl, rfl, rfl⟩ := e1
    refine ⟨by simp, some ⟨b, off + k, none⟩, c - k, by rw [List.length_drop, hlen], by rw [List.length_drop]; omega, by unfold maxLen at *; omega, ?_⟩
    rcases e4 with e4 | ⟨b', off', e5, e6⟩
    · left; rw [List.length_drop]; omega
    · right
      simp only [Option.some.injEq, Addr.mk.injEq, and_true] at e5
      obtain ⟨rfl, rfl⟩ := e5
      refine ⟨b, off + k, rfl, fun j u hj => ?_⟩
      rw [List.getElem?_drop] at hj
      rw [Nat.add_assoc]
      exact e6 _ u hj
  · rw [List.getElem_drop, List.getElem_drop]
    rw [List.length_drop] at hj
    exact h2.rd (k + j) (by omega)

/-- records behind a place, as Go cuts them -/
theorem Recs.cut {w : World} {b off : Nat} {n c : Nat} {s : List Rc} (h : Recs w (.slice (some ⟨b, off, none⟩) n c) s) (k : Nat) (hk : k ≤ s.length) : ∃ A, (if c = k then some (⟨b, off, none⟩ : Addr) else some ⟨b, off + k * 4, none⟩) = some A ∧ Recs w (.slice (some A) (s.length - k) (c - k)) (s.drop k) := by
  by_cases hc : c = k
  · refine ⟨⟨b, off, none⟩, if_pos hc, ?_⟩
    have hs : s.length ≤ c := by
      obtain ⟨o', c', hv, h1, _⟩ := h.slice
      simp only [Value.slice.injEq] at hv
      omega
    have hd : s.drop k = [] := List.drop_of_length_le (by omega)
    have h0 : s.length - k = 0 := by omega
    rw [hd, h0]
    exact ⟨rfl, _, c - k, rfl, Nat.zero_le _, by omega, .inl rfl⟩
  · exact ⟨_, if_neg hc, h.back k hk⟩
theorem Sgs.cut {w : World} {b off : Nat} {n c : Nat} {l : List (List Rc)} (h : Sgs w (.slice (some ⟨b, off, none⟩) n c) l) (k : Nat) (hk : k ≤ l.length) : ∃ A, (if c = k then some (⟨b, off, none⟩ : Addr) else some ⟨b, off + k, none⟩) = some A ∧ Sgs w (.slice (some A) (l.length - k) (c - k)) (l.drop k) := by
  by_cases hc : c = k
  · refine ⟨⟨b, off, none⟩, if_pos hc, ?_⟩
    have hs : l.length ≤ c := by
      obtain ⟨o', c', hv, h1, _⟩ := h.slice
      simp only [Value.slice.injEq] at hv
      omega
    have hd : l.drop k = [] := List.drop_of_length_le (by omega)
    have h0 : l.length - k = 0 := by omega
    rw [hd, h0]
    exact ⟨[], ⟨rfl, _, c - k, rfl, Nat.zero_le _, by omega, .inl rfl⟩, SRd.nil w⟩
  · exact ⟨_, if_neg hc, h.back k hk⟩

set_option maxRecDepth 100000 in
set_option maxHeartbeats 8000000 in
theorem refAlive_any (v vb : Value) (l : List (List Rc)) (b : List Itm) (w : World) (h : Sgs w v l) (hb : Items w vb b) (hr : Right l) (hbag : Bag FP b) :
    Calls Try.prog 13 #[v, vb] w (SgPost w (alive b l)) := by
  have HX := Lib.hid h
  have HBI := Lib.hid hb
  have HIT := Lib.hid (fun W (i : Bool × Int × Int) (hW : Up w W) => refItemS_any vb b i.1 i.2.1 i.2.2 W (hb.up hW))
  have HRI := Lib.hid hr
  have HBG := Lib.hid hbag
  obtain ⟨o, c, rfl, hc1, hc2⟩ := h.slice
  obtain ⟨ob, cb, rfl, hcb1⟩ := hb.slice
  unfold maxLen at hc2 hcb1
  obtain ⟨n, hn⟩ : ∃ n, l.length = n := ⟨_, rfl⟩
  have HN := Lib.hid hn
  rw [hn] at HX hc1 ⊢
  have hn16 : n ≤ 16 := by rw [← hn]; exact hr.len
  obtain ⟨nb, hnb⟩ : ∃ nb, b.length = nb := ⟨_, rfl⟩
  have HNB := Lib.hid hnb
  rw [hnb] at HIT HBI ⊢
  have hmk := run_nils n hn16
  clear h hb hr hbag hn hnb
  go_enter Try.func13, Try.ntmps13
  go_wp2_with fail
  have HNO : Hid (OSl (w.alloc (.cells (Array.replicate n (Value.slice none 0 0)) 31)) w.heap.size (.slice (some ⟨w.heap.size, 0, none⟩) n n) (List.replicate n (Value.slice none 0 0))) := nils_own n hn16 w
  have hg3 : w.heap.size < (w.alloc (.cells (Array.replicate n (Value.slice none 0 0)) 31)).heap.size := by simp
  have HG3 := Lib.hid hg3
  have HU3 : Hid (Up w (w.alloc (.cells (Array.replicate n (Value.slice none 0 0)) 31))) := Up.alloc _ _
  generalize (w.alloc (.cells (Array.replicate n (Value.slice none 0 0)) 31)) = w4 at HNO HG3 HU3 ⊢
  have HG : Hid (w.heap.size ≤ w.heap.size) := Nat.le_refl _
  obtain ⟨g, hg⟩ : ∃ g, w.heap.size = g := ⟨_, rfl⟩
  have HB4 : Hid (w.heap.size ≤ w4.heap.size) := HU3.out.size
  have HFO : Hid (AoRel l b w w4.heap.size w.heap.size n (.int .i64 ((0 : Nat) : Int)) w4) := by
    refine ⟨0, Nat.zero_le _, rfl, HU3.out, fun h0 => ?_, fun h0 => ?_⟩
    · refine ⟨⟨_, HNO.out, ?_⟩, Recs.nil _, (fun b' hb' => (by cases hb')), HU3.out, Nat.le_refl _⟩
      rw [found_start b l (by rw [HN.out]; exact h0), HN.out]
      exact nils_rows _ _ _
    · have hl : l = [] := List.eq_nil_of_length_eq_zero (by rw [HN.out]; omega)
      subst h0
      rw [hl]
      exact ⟨[], HNO.out, OSr.nil _ _⟩
  rw [hg] at HFO HNO ⊢
  have HGG : Hid (w.heap.size ≤ g) := by show _ ≤ _; omega
  clear hg3 hmk HNO hg
  go_loopw [19] (fun i wr => AoRel l b w w4.heap.size g n i wr) (fun i _ => n - (intOf i).toNat)
  case atStart => exact HFO.out
  case round =>
    obtain ⟨k, hk, rfl, hu, hfs, hdone⟩ := hrel
    by_cases hlt : k < n
    · have hkl : k < l.length := by rw [HN.out]; exact hlt
      have hf0 := hfs hlt
      obtain ⟨bX, offX, rfl, hat⟩ := HX.out.at (by rintro rfl; simp at hkl)
      obtain ⟨x, a0, hx⟩ := hat k hkl
      rw [← hu.cell (World.block_lt_of_cell? w _ a0)] at a0
      obtain ⟨o', c', hxe, hcx1, hcx2⟩ := hx.slice
      obtain ⟨L, hL⟩ : ∃ L, (l.drop (k + 1)).flatten = L := ⟨_, rfl⟩
      have HL := Lib.hid hL
      have HNX : Hid (∀ pre wF, aliveS b l[k] L = pre → FoS w w4.heap.size g n (found b l k pre) [] (.slice none 0 0) wF → AoRel l b w w4.heap.size g n (.int .i64 ((k + 1 : Nat) : Int)) wF) := fun pre wF hp hF => by
        rw [← hL] at hp
        exact AoRel.next HN.out hlt HB4.out hp hF
      have hs25 : l[k].length ≤ 25 := by have h1 := takes_len l[k]; have h2 := (HRI.out.seg _ (List.getElem_mem hkl)).room; omega
      obtain ⟨B, hB, hcut⟩ := HX.out.cut (k + 1) hkl
      rw [HN.out] at hcut
      have HCU := Lib.hid hcut
      obtain ⟨s, hs⟩ : ∃ s, l[k] = s := ⟨_, rfl⟩
      rw [hs] at HNX hx hxe hcx1 hs25
      have HF0 := Lib.hid hf0
      have HXX := Lib.hid hx
      subst hxe
      have d1 : decide (k < n) = true := decide_eq_true hlt
      have HKL : Hid (k < l.length) := hkl
      unfold maxLen at hcx2
      clear hfs hdone hf0 hat hx hL hs hu hcut
      go_wp2_with fail
      go_loopw [26] (fun i wx => AiRel l b w w4.heap.size g n k s L i wx) (fun i _ => s.length - (intOf i).toNat)
      case atStart => exact ⟨0, [], Nat.zero_le _, rfl, rfl, Nat.le_refl _, HF0.out⟩
      case round =>
        obtain ⟨j, pre, hj, rfl, hp, hpl, hf⟩ := hrel
        by_cases hlj : j < s.length
        · rw [List.drop_eq_getElem_cons hlj, aliveS_take] at hp
          obtain ⟨bY, offY, rfl, hat⟩ := HXX.out.at (by rintro rfl; simp at hlj)
          obtain ⟨a0, a1, a2, a3⟩ := hat j hlj
          have hu := hf.up
          rw [← hu.cell (World.block_lt_of_cell? w _ a0)] at a0
          rw [← hu.cell (World.block_lt_of_cell? w _ a1)] at a1
          rw [← hu.cell (World.block_lt_of_cell? w _ a2)] at a2
          rw [← hu.cell (World.block_lt_of_cell? w _ a3)] at a3
          obtain ⟨x, hx⟩ : ∃ x, s[j] = x := ⟨_, rfl⟩
          obtain ⟨S1, hS1⟩ : ∃ S1, s.drop (j + 1) = S1 := ⟨_, rfl⟩
          rw [hx, hS1] at hp
          rw [hx] at a0 a1 a2 a3
          obtain ⟨A, hA, hcutA⟩ := HXX.out.cut (j + 1) hlj
          rw [hS1] at hcutA
          have HCA := Lib.hid hcutA
          have HIX := Lib.hid (fun W (hW : Up w W) => HIT.out W x.1 hW)
          have hrC : rcC x = [.bool x.1.1, .int .i64 x.1.2.1, .int .i64 x.1.2.2, .string (bs x.2)] := rfl
          have HRC := Lib.hid hrC
          have HCT := Lib.hid (fun W lv q (hW : Recs W lv q) => containsR_any lv q x W hW)
          unfold rcA at HCT
          have HNEXT : Hid (∀ (pre2 : List Rc) (wF : World), (if WoolSeg.used b x = true ∧ (S1 ++ L).contains x = false then [x] else []) = pre2 → FoS w w4.heap.size g n (found b l k (pre ++ pre2)) [] (.slice none 0 0) wF → AiRel l b w w4.heap.size g n k s L (.int .i64 ((j + 1 : Nat) : Int)) wF) := fun pre2 wF h2 hF => by
            rw [h2] at hp
            refine ⟨j + 1, pre ++ pre2, by omega, rfl, by rw [hp, List.append_assoc, hS1], ?_, hF⟩
            have : pre2.length ≤ 1 := by
              rw [← h2]
              split <;> simp
            rw [List.length_append]
            omega
          have HUu := Lib.hid hu
          have HFF := Lib.hid hf
          have d2 : decide (j < s.length) = true := decide_eq_true hlj
          have HPL : Hid (pre.length ≤ 25) := by show _ ≤ _; omega
          have HPRE : Hid (pre ++ [] = pre) := List.append_nil pre
          have hic := ixI_cases (idB x.1) b
          have hun : ixI (idB x.1) b = -1 → WoolSeg.used b x = false := used_none
          have hua : ∀ q (hq : q < b.length), ixI (idB x.1) b = (q : Int) → WoolSeg.used b x = (b[q].t == x.2) := fun q hq => used_at HBG.out hq
          have HUA : Hid (∀ q (hq : q < b.length), ixI (idB x.1) b = (q : Int) → WoolSeg.used b x = (b[q].t == x.2)) := hua
          have HTX : Hid (∀ q (hq : q < b.length), ((bs b[q].t).toList == (bs x.2).toList) = (b[q].t == x.2)) := fun q hq => txt_eq _ _
          obtain ⟨AT, hAT⟩ : ∃ AT, ixI (idB x.1) b = AT := ⟨_, rfl⟩
          rw [hAT] at hic hun HUA
          have HIX2 : Hid (∀ W, Up w W → Calls Try.prog 33 #[.slice ob nb cb, .agg #[.bool x.1.1, .int .i64 x.1.2.1, .int .i64 x.1.2.2]] W fun e w' => e = .returned (.int .i64 AT) ∧ Up W w') := fun W hW => by
            have h1 := HIX.out W hW
            rw [show ((x.1.1, x.1.2.1, x.1.2.2) : Bool × Int × Int) = x.1 from rfl, hAT] at h1
            exact h1
          have HUN := Lib.hid hun
          obtain ⟨US, hUS⟩ : ∃ US, WoolSeg.used b x = US := ⟨_, rfl⟩
          rw [hUS] at HNEXT HUN HUA
          clear hf hp hat hx hS1 hcutA hrC hu hun hua hAT hUS HIX
          obtain ⟨m1, hm1⟩ : ∃ m1, s.length - (j + 1) = m1 := ⟨_, rfl⟩
          rw [hm1] at HCA
          obtain ⟨n1, hn1⟩ : ∃ n1, n - (k + 1) = n1 := ⟨_, rfl⟩
          have HCV := Lib.hid HCU.out
          rw [hn1] at HCV
          have HN1 : Hid ((l.drop (k + 1)).length = n1) := by show _ = _; rw [List.length_drop, HN.out]; exact hn1
          obtain ⟨l1, hl1⟩ : ∃ l1, S1.contains x = l1 := ⟨_, rfl⟩
          have HL1 := Lib.hid hl1
          have HCT1 : Hid (∀ W, Up w W → Calls Try.prog 34 #[.slice (some A) m1 (c' - (j + 1)), .agg #[.bool x.1.1, .int .i64 x.1.2.1, .int .i64 x.1.2.2, .string (bs x.2)]] W fun e w' => e = .returned (.bool l1) ∧ Up W w') := fun W hW => by
            have h1 := HCT.out W _ _ (HCA.out.up hW)
            rw [hl1] at h1
            exact h1
          clear hl1
          have hj1 : j + 1 ≤ s.length := hlj
          have p1 : IntKind.i64.wrap ((j : Int) + 1) = (j : Int) + 1 := IntWalk.i64_in _ (by omega)
          have p2 : (0 : Int) ≤ (j : Int) + 1 := by omega
          have p3 : (j : Int) + 1 ≤ (s.length : Int) := by omega
          have p4 : ((j : Int) + 1).toNat = j + 1 := by omega
          have q1 : IntKind.i64.wrap ((k : Int) + 1) = (k : Int) + 1 := IntWalk.i64_in _ (by omega)
          have q2 : (0 : Int) ≤ (k : Int) + 1 := by omega
          have q3 : (k : Int) + 1 ≤ (n : Int) := by omega
          have q4 : ((k : Int) + 1).toNat = k + 1 := by omega
          generalize x.1.1 = x0 at *
          generalize x.1.2.1 = x1 at *
          generalize x.1.2.2 = x2 at *
          generalize bs x.2 = x3 at *
          go_wp2_with fail
          have hal := Up.alloc wr (.cells #[.bool x0, .int .i64 x1, .int .i64 x2, .string x3] 26)
          have hrow : RowC (wr.alloc (.cells #[.bool x0, .int .i64 x1, .int .i64 x2, .string x3] 26)) wr.heap.size 26 [.bool x0, .int .i64 x1, .int .i64 x2, .string x3] := heap_alloc_new wr _
          refine (HIX2.out _ (HUu.out.trans hal)).mono ?_
          rintro e w5 ⟨rfl, u5⟩
          have HU5 : Hid (Up wr w5) := hal.trans u5
          have HR5 := Lib.hid (hrow.up u5)
          have r0 := HR5.out.cell (j := 0) rfl
          have r1 := HR5.out.cell (j := 1) rfl
          have r2 := HR5.out.cell (j := 2) rfl
          have r3 := HR5.out.cell (j := 3) rfl
          have hbl := HR5.out.lt
          clear hal hrow u5
          go_wp2_with fail
          go_region_held3 (fun U => U.cell? ⟨wr.heap.size, 0, none⟩ = some (.bool x0) ∧ U.cell? ⟨wr.heap.size, 1, none⟩ = some (.int .i64 x1) ∧ U.cell? ⟨wr.heap.size, 2, none⟩ = some (.int .i64 x2) ∧ U.cell? ⟨wr.heap.size, 3, none⟩ = some (.string x3)) (go_keep)
            ((go_at_call 34; ((with_reducible refine (HCT1.out _ (by first | exact (HUu.out.trans HU5.out).trans (Up.drew _) | exact HUu.out.trans HU5.out)).mono ?_); rintro e w6 ⟨rfl, u6⟩; have y0 := (Below.cell u6 (p := ⟨wr.heap.size, 0, none⟩) hbl).trans r0; have y1 := (Below.cell u6 (p := ⟨wr.heap.size, 1, none⟩) hbl).trans r1; have y2 := (Below.cell u6 (p := ⟨wr.heap.size, 2, none⟩) hbl).trans r2; have y3 := (Below.cell u6 (p := ⟨wr.heap.size, 3, none⟩) hbl).trans r3)))
          all_goals
            have HU6 : Hid (Up wr w6) := HU5.out.trans (by first | exact (Up.drew _).trans u6 | exact u6)
            have HR6 : Hid (RowC w6 wr.heap.size 26 [.bool x0, .int .i64 x1, .int .i64 x2, .string x3]) := HR5.out.up (by first | exact (Up.drew _).trans u6 | exact u6)
            clear u6 y0 y1 y2 y3 r0 r1 r2 r3
            have HST : Hid (AlRel x S1 (l.drop (k + 1)) w6 (.bool l1) (.int .i64 ((0 : Nat) : Int)) w6) := ⟨0, Nat.zero_le _, rfl, by rw [List.take_zero, List.flatten_nil, List.append_nil, HL1.out], Up.refl _⟩
            have HF7 : Hid (∀ W, Up w6 W → FoS w w4.heap.size g n (found b l k pre) [] (.slice none 0 0) W) := fun W hW => HFF.out.ups (HU6.out.trans hW)
            have HUW6 : Hid (Up w w6) := HUu.out.trans HU6.out
            have HCW := Lib.hid (fun W lv q (hW : Recs W lv q) => HCT.out W lv q hW)
            obtain ⟨X, hX⟩ : ∃ X, wr.heap.size = X := ⟨_, rfl⟩
            rw [hX] at HR6 ⊢
            clear hX hbl
            go_wp2_with fail
            go_loopw [11, 46] (fun lt i wy => AlRel x S1 (l.drop (k + 1)) w6 lt i wy) (fun _ i _ => n1 - (intOf i).toNat)
            case atStart => exact HST.out
            case round =>
              obtain ⟨q, hq, rfl, rfl, hy⟩ := hrel
              rw [HN1.out] at hq
              have HY := Lib.hid hy
              by_cases hlq : q < n1
              · have hql : q < (l.drop (k + 1)).length := by rw [HN1.out]; exact hlq
                obtain ⟨bZ, offZ, hBZ, hatZ⟩ := HCV.out.at (by intro e; rw [e] at hql; simp at hql)
                cases hBZ
                obtain ⟨z, z0, hz⟩ := hatZ q hql
                have HUw : Hid (Up w wr) := HUW6.out.trans hy
                rw [← HUw.out.cell (World.block_lt_of_cell? _ _ z0)] at z0
                have hcs := contains_step x S1 (l.drop (k + 1)) hql
                have HCZ := Lib.hid (fun W (hW : Up wr W) => HCT.out W z _ ((hz.up HUw.out).up hW))
                obtain ⟨oz, cz, hzv, _, _⟩ := hz.slice
                have hrw := HR6.out.up hy
                have r0 := hrw.cell (j := 0) rfl
                have r1 := hrw.cell (j := 1) rfl
                have r2 := hrw.cell (j := 2) rfl
                have r3 := hrw.cell (j := 3) rfl
                have HNY : Hid (∀ wF, Up wr wF → AlRel x S1 (l.drop (k + 1)) w6 (.bool ((S1 ++ ((l.drop (k + 1)).take q).flatten).contains x || (l.drop (k + 1))[q].contains x)) (.int .i64 ((q + 1 : Nat) : Int)) wF) := fun wF hF => ⟨q + 1, by rw [HN1.out]; omega, rfl, by rw [hcs], HY.out.trans hF⟩
                generalize (S1 ++ ((l.drop (k + 1)).take q).flatten).contains x = l2 at HNY ⊢
                generalize (l.drop (k + 1))[q].contains x = l3 at HNY HCZ
                generalize (l.drop (k + 1))[q].length = mz at hzv
                subst hzv
                have dq : decide (q < n1) = true := decide_eq_true hlq
                clear hatZ hz hcs hy hrw
                cases l2 with
                | true =>
                  have HNZ := Lib.hid (HNY.out _ (Up.refl _))
                  rw [Bool.true_or] at HNZ
                  go_wp2_with fail
                  go_roundw
                  case rel => have := HNZ.out; simpa using this
                  case measure => simp only [intOf]; omega
                | false =>
                  rw [show (false || l3) = l3 from Bool.false_or l3] at HNY
                  go_wp2_with fail
                  refine (HCZ.out _ (Up.refl _)).mono ?_
                  rintro e w7 ⟨rfl, u7⟩
                  have HNZ := Lib.hid (HNY.out _ u7)
                  clear u7
                  go_wp2_with fail
                  go_roundw
                  case rel => have := HNZ.out; simpa using this
                  case measure => simp only [intOf]; omega
              · have dq : decide (q < n1) = false := decide_eq_false hlq
                rw [List.take_of_length_le (by rw [HN1.out]; omega), HL.out]
                have HF8 := Lib.hid (HF7.out _ hy)
                have HR8 := Lib.hid (HR6.out.up hy)
                have HU8 : Hid (Up w wr) := HUW6.out.trans hy
                clear hy
                generalize (S1 ++ L).contains x = lt at HNEXT ⊢
                have c0 := HR8.out.cell (j := 0) rfl
                have c1 := HR8.out.cell (j := 1) rfl
                have c2 := HR8.out.cell (j := 2) rfl
                have c3 := HR8.out.cell (j := 3) rfl
                have HSK : Hid ((US = true → lt = true) → ∀ W, Up wr W → AiRel l b w w4.heap.size g n k s L (.int .i64 ((j + 1 : Nat) : Int)) W) := fun he W hW => HNEXT.out [] W (by rw [if_neg]; rintro ⟨h1, h2⟩; rw [he h1] at h2; cases h2) (by rw [HPRE.out]; exact HF8.out.ups hW)
                rcases hic with hic | ⟨qa, hqa, hic⟩
                · have hus := HUN.out hic
                  subst hic
                  subst hus
                  have HS2 := Lib.hid (HSK.out (fun h => by cases h))
                  go_wp2_with fail
                  go_quiet (fail)
                  all_goals
                    go_wp2_with fail
                    exact ⟨by have := HS2.out _ (Up.drewN wr nq); simpa using this, by simp only [intOf]; omega⟩
                · have hus := HUA.out qa hqa hic
                  have htx := HTX.out qa hqa
                  rw [← hus] at htx
                  obtain ⟨o9, c9, hv9, hq9, _, h49⟩ := HBI.out
                  simp only [Value.slice.injEq] at hv9
                  obtain ⟨rfl, hnn, rfl⟩ := hv9
                  rcases h49 with h49 | ⟨bI, offI, rfl, h69⟩
                  · rw [h49] at hqa; simp at hqa
                  obtain ⟨i1, i2, i3, i4⟩ := h69 qa hqa
                  rw [← HU8.out.cell (World.block_lt_of_cell? w _ i1)] at i1
                  rw [← HU8.out.cell (World.block_lt_of_cell? w _ i2)] at i2
                  rw [← HU8.out.cell (World.block_lt_of_cell? w _ i3)] at i3
                  rw [← HU8.out.cell (World.block_lt_of_cell? w _ i4)] at i4
                  have hqn : (qa : Int) < (nb : Int) := by have := HNB.out; omega
                  have hq0 : (0 : Int) ≤ (qa : Int) := Int.natCast_nonneg _
                  have hq1 : decide ((0 : Int) ≤ (qa : Int)) = true := decide_eq_true hq0
                  generalize bs b[qa].t = xt at i3 htx
                  subst hic
                  clear hnn h69 hus
                  cases US with
                  | false =>
                    have HS2 := Lib.hid (HSK.out (fun h => by cases h))
                    go_wp2_with fail
                    go_quiet (fail)
                    all_goals
                      go_wp2_with fail
                      exact ⟨by have := HS2.out _ (Up.drewN wr nq); simpa using this, by simp only [intOf]; omega⟩
                  | true =>
                    cases lt with
                    | true =>
                      have HS2 := Lib.hid (HSK.out (fun _ => rfl))
                      go_wp2_with fail
                      go_quiet (fail)
                      all_goals
                        go_wp2_with fail
                        exact ⟨by have := HS2.out _ (Up.drewN wr nq); simpa using this, by simp only [intOf]; omega⟩
                    | false =>
                      go_wp2_with fail
                      go_quiet (fail)
                      all_goals
                        have hu9 : Up wr (wr.drewN nq) := Up.drewN _ _
                        have hf6 := HF8.out.ups hu9
                        have HR6 := Lib.hid (HR8.out.up hu9)
                        clear hu9 c0 c1 c2 c3 i1 i2 i3 i4
                        generalize wr.drewN nq = w6 at hf6 HR6 ⊢
                        have HNX2 : Hid (∀ wF, FoS w w4.heap.size g n (found b l k (pre ++ [x])) [] (.slice none 0 0) wF → AiRel l b w w4.heap.size g n k s L (.int .i64 ((j + 1 : Nat) : Int)) wF) := fun wF => HNEXT.out [x] wF (by simp)
                        obtain ⟨C, h1, h2⟩ := hf6.out
                        have hGl : (found b l k pre).length = l.length := found_length b l k pre HKL.out
                        have hkG : k < (found b l k pre).length := by rw [hGl]; exact HKL.out
                        have hkC : k < C.length := by have := h2.len; omega
                        have hok := h2.own k hkG
                        rw [found_get b l k pre HKL.out] at hok
                        obtain ⟨oP, cP, hCk, _, _⟩ := hok.recs.slice
                        obtain ⟨m, hm⟩ : ∃ m, pre.length = m := ⟨_, rfl⟩
                        have hm25 := HPL.out
                        rw [hm] at hCk hm25
                        have HCK2 : Hid (C[k]'hkC = .slice oP m cP) := hCk
                        have HOR : Hid (∀ W, Up w6 W → W.ownsRow w4.heap.size 26 4 (.slice oP m cP) m (fl rcC pre)) := fun W hW => by
                          have h := hok.up hW
                          rw [hCk] at h
                          unfold ORecs at h
                          rw [hm] at h
                          exact h
                        have HGR : Hid (∀ (W wA : World) gA cA, Up w6 W → wA.ownsRow w4.heap.size 26 4 (.slice (some ⟨gA, 0, none⟩) (m + 1) cA) (m + 1) (fl rcC pre ++ [.bool x0, .int .i64 x1, .int .i64 x2, .string x3]) → W.grownBy wA (Value.slice oP m cP).ownBlock → ((Value.slice oP m cP).ownBlock = some gA ∨ gA = W.heap.size) →
                            wA.frozen? ⟨g, k, none⟩ = false ∧ wA.cell? ⟨g, k, none⟩ = some (.slice oP m cP) ∧ AiRel l b w w4.heap.size g n k s L (.int .i64 ((j + 1 : Nat) : Int)) (wA.setCell ⟨g, k, none⟩ (.slice (some ⟨gA, 0, none⟩) (m + 1) cA))) := fun W wA gA cA hW hown hgr hat => by
                          have ho : ORecs wA w4.heap.size (.slice (some ⟨gA, 0, none⟩) (m + 1) cA) (pre ++ [x]) := by
                            unfold ORecs
                            rw [List.length_append, hm, List.length_singleton, fl_append]
                            show wA.ownsRow _ _ 4 _ _ (fl rcC pre ++ (rcC x ++ []))
                            rw [List.append_nil, HRC.out]
                            exact hown
                          rw [← HCK2.out] at hgr hat
                          obtain ⟨q1, q2, q3⟩ := FoS.more (hf6.ups hW) hkG HGG.out HB4.out (own_upS h1 hW) (h2.up hW) ho hgr (by
                            rcases hat with e | e
                            · exact .inl e.symm
                            · exact .inr ⟨gA, rfl, by omega⟩)
                          rw [HCK2.out] at q2
                          rw [found_set b l k pre (pre ++ [x]) HKL.out] at q3
                          exact ⟨q1, q2, HNX2.out _ q3⟩
                        have e6 : w6.cell? ⟨g, k, none⟩ = some (.slice oP m cP) := by
                          obtain ⟨g', ee, hc⟩ : ∃ g', (some (⟨g, 0, none⟩ : Addr)) = some ⟨g', 0, none⟩ ∧ w6.cell? ⟨g', k, none⟩ = some (C[k]'hkC) := by
                            rcases own_row h1 with ⟨hv, _, _⟩ | ⟨g', cap, sp, hv, _, hrw, _, _, _⟩
                            · cases hv
                            · simp only [Value.slice.injEq] at hv
                              refine ⟨g', hv.1, hrw.cell ?_⟩
                              rw [List.getElem?_append_left hkC, List.getElem?_eq_getElem hkC]
                          cases ee
                          rw [hc, hCk]
                        have c0 := HR6.out.cell (j := 0) rfl
                        have c1 := HR6.out.cell (j := 1) rfl
                        have c2 := HR6.out.cell (j := 2) rfl
                        have c3 := HR6.out.cell (j := 3) rfl
                        have k0 : w6.drew.cell? ⟨X, 0, none⟩ = some (.bool x0) := c0
                        have k1 : w6.drew.cell? ⟨X, 1, none⟩ = some (.int .i64 x1) := c1
                        have k2 : w6.drew.cell? ⟨X, 2, none⟩ = some (.int .i64 x2) := c2
                        have k3 : w6.drew.cell? ⟨X, 3, none⟩ = some (.string x3) := c3
                        have k4 : w6.drew.cell? ⟨g, k, none⟩ = some (.slice oP m cP) := e6
                        have e7 := Lib.cell?_alloc_some (.cells #[.bool x0, .int .i64 x1, .int .i64 x2, .string x3] 26) e6
                        have HS6 : Hid (w4.heap.size ≤ w6.heap.size) := hf6.sz
                        obtain ⟨i1, hi, hz0, hz1, hz2⟩ := rcInfo'
                        have HI1 := Lib.hid hi
                        have HY0 := Lib.hid hz0
                        have HY1 := Lib.hid hz1
                        have HY2 := Lib.hid hz2
                        have hkn : (k : Int) < (n : Int) := by omega
                        have hk0 : (0 : Int) ≤ (k : Int) := Int.natCast_nonneg _
                        clear hi hz0 hz1 hz2 hf6 h1 h2 hGl hkG hok hm hCk
                        go_wp2_with fail
                        go_region_law (refine step_append_lies _ rfl (.tmp 78) (.tmp 80) 31 rfl w4.heap.size 26 i1 _ 4 40 Try.underlying31 HI1.out HY0.out HY1.out HY2.out rfl (by decide) (.slice oP m cP) m (fl rcC pre) (by simp [Act.eval]) (by first | exact HOR.out _ ((Up.drew _).trans (Up.alloc _ _)) | exact HOR.out _ ((Up.alloc _ _).trans (Up.drew _))) ⟨w6.heap.size, 0, none⟩ 1 1 [.bool x0, .int .i64 x1, .int .i64 x2, .string x3] (by simp [Act.eval]) rfl (World.news_of_block (cs := #[.bool x0, .int .i64 x1, .int .i64 x2, .string x3]) (t := 26) (fr := (0, 0)) (by first | exact heap_alloc_new w6.drew _ | exact heap_alloc_new w6 _)) (by intro u hu; simp at hu; rcases hu with rfl | rfl | rfl | rfl <;> rfl) (by omega) (by unfold maxLen; omega) (by omega) (by have := HS6.out; simp; omega) _ rfl ?_; intro gA cA wA hA hgA hatA hltA; obtain ⟨zf, zc, zs⟩ := HGR.out _ wA gA cA (by first | exact (Up.drew _).trans (Up.alloc _ _) | exact (Up.alloc _ _).trans (Up.drew _)) hA hgA hatA; have HS1 := Lib.hid zs; clear hA hgA hatA hltA zs)
                        all_goals
                          go_wp2_with fail
                          go_roundw
                          case rel => exact HS1.out
                          case measure => simp only [intOf]; omega
        · have d2 : decide (j < s.length) = false := decide_eq_false hlj
          have hdr : s.drop j = [] := List.drop_of_length_le (by omega)
          rw [hdr, show aliveS b [] L = [] from rfl, List.append_nil] at hp
          have hnx := HNX.out _ _ hp hf
          have HNN := Lib.hid hnx
          clear hnx hf hp hdr
          go_wp2_with fail
          go_roundw
          case rel => exact HNN.out
          case measure => simp only [intOf]; omega
    · have d1 : decide (k < n) = false := decide_eq_false hlt
      have HOV := Lib.hid (hdone (by omega))
      have HUE := Lib.hid hu
      clear hfs hdone hu
      go_wp2_with fail
      go_ret
      exact ⟨_, rfl, HOV.out, HUE.out⟩

end Go.Proofs.Ytomfbffaekpnlaa
