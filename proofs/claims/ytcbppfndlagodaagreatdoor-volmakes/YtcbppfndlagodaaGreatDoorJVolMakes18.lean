/-
  The texts VolG, VolSort, one behind the other; each says below what it holds and on what conditions.
-/
import Derived.Test.YtcbppfndlagodaaGreatDoorJVolMakes17
import Derived.Test.YtcbppfndlagodaaGreatDoorJVolMakes09
import Derived.Test.YtcbppfndlagodaaGreatDoorJVolMakes12
import Derived.Test.YtcbppfndlagodaaGreatDoorJVolMakes14

/-
  slices.Clone of volumes; what state.Clone returns: a state of the call's own, each volume's blocks in a row of its own. Conditions: as each says.
-/
namespace Go.Proofs.YtcbppfndlagodaaGreatDoor
open Go.RowKit
open Go.Proofs
open WoolBag
open WoolVol

theorem volInfo : (Tryz.prog.info? 47).map (fun i => (i.zero, i.size, i.bytes)) = some (some (.agg #[.string ⟨#[]⟩, .slice none 0 0]), 2, 40) := by kernel_rfl

theorem volInfo' : ∃ i, Tryz.prog.info? 47 = some i ∧ i.zero = some (.agg #[.string ⟨#[]⟩, .slice none 0 0]) ∧ i.size = 2 ∧ i.bytes = 40 := by
  have h := volInfo
  cases hq : Tryz.prog.info? 47 with
  | none => rw [hq] at h; cases h
  | some i =>
    rw [hq] at h
    simp only [Option.map_some, Option.some.injEq, Prod.mk.injEq] at h
    exact ⟨i, rfl, h.1, h.2.1, h.2.2⟩

/-- volumes in a row of the call's own -/
def OVC (w : World) (base : Nat) (v : Value) (C : List VC) : Prop := w.ownsRow base 47 2 v C.length (fl vcC C)

theorem OVC.vcs {w : World} {base : Nat} {v : Value} {C : List VC} (h : OVC w base v C) : VCs w v C := Sl.of_own h

theorem own_up {w w' : World} {base T m n : Nat} {v : Value} {L : List Value} (h : w.ownsRow base T m v n L) (hu : Up w w') : w'.ownsRow base T m v n L := by
  refine World.ownsRow.kept h (grown_up hu none) ?_
  cases v.ownBlock with
  | none => exact .inl rfl
  | some b => exact .inr (by simp)

theorem own_base {w : World} {base base' T m n : Nat} {v : Value} {L : List Value} (h : w.ownsRow base T m v n L) (hb : base' ≤ base) : w.ownsRow base' T m v n L := by
  refine ⟨h.1, ?_⟩
  rcases h.2 with h | ⟨g, cap, cur, h1, h2, h3⟩
  · exact .inl h
  · exact .inr ⟨g, cap, cur, h1, by omega, h3⟩

def VCPost (w : World) (C : List VC) (e : Ending) (w' : World) : Prop := ∃ v', e = .returned v' ∧ OVC w' w.heap.size v' C ∧ Up w w'

set_option maxRecDepth 100000 in
set_option maxHeartbeats 1000000 in
theorem cloneV_any (v : Value) (C : List VC) (w : World) (h : VCs w v C) (hone : ∀ u ∈ fl vcC C, u.oneCell' = true) (hl : C.length ≤ 6) :
    Calls Tryz.prog 57 #[v] w (VCPost w C) := by
  obtain ⟨i0, hi, hz0, hz1, hz2⟩ := volInfo'
  obtain ⟨o, c, rfl, _, h3⟩ := Sl.slice h
  unfold maxLen at h3
  have q22 : ∀ (w : World) (a : Option Addr) (n c n' c' : Nat), (binOp .eql 23 (.slice a n c) (.slice none n' c')).run Tryz.prog w = .ok (.bool a.isNone) w := fun w a n c n' c' => Lib.run_eql_slice_nil w _ _ a n c n' c' Tryz.underlying23
  cases o with
  | none =>
    have hn : C = [] := by
      by_cases e : C = []
      · exact e
      · obtain ⟨b, off, h1, _⟩ := VCs.at h e; cases h1
    subst hn
    clear h
    go_enter Tryz.func57, Tryz.ntmps57
    go_wp2
    go_ret
    exact ⟨_, rfl, World.ownsRow_nil _ _ _ _, Up.refl _⟩
  | some ad =>
    have hcl : Hid (∀ j u, (fl vcC C)[j]? = some u → w.cell? (ad.add j) = some u) := by
      intro j u hj
      have hne : C ≠ [] := by rintro rfl; simp [fl] at hj
      obtain ⟨b, off, sp⟩ := ad
      obtain ⟨b', off', h5, h6⟩ := Sl.cells h (by intro e; exact hne (List.eq_nil_of_length_eq_zero e))
      cases h5
      rw [add_off]
      exact h6 j u hj
    have HONE := Lib.hid hone
    clear h hone
    go_enter Tryz.func57, Tryz.ntmps57
    go_wp2_with (at_builtin; refine wpList_append_own _ rfl _ _ 23 rfl w.heap.size 47 i0 _ 2 40 Tryz.underlying23 hi hz0 hz1 hz2 rfl (by omega) _ _ _ rfl (World.ownsRow_made w #[] 0 (Nat.le_refl _) (Nat.zero_le _) (by simp)) ad C.length c (fl vcC C) rfl ?qc1 ?qc2 ?qc3 ?qc4 ?qc5 ?qc6 ?_)
    case qc1 => exact fl_length vcC_len C
    case qc2 =>
      intro j u hj
      exact Lib.cell?_alloc_some _ (hcl.out j u hj)
    case qc3 => exact HONE.out
    case qc4 => unfold maxLen; omega
    case qc5 => omega
    case qc6 => simp
    intro v' w1 hown hgrow hnil
    have HO : Hid (OVC w1 w.heap.size v' C) := by
      show OVC w1 w.heap.size v' C
      unfold OVC
      simpa using hown
    have HU : Hid (Up w w1) := ((Below.refl _ w).alloc (Nat.le_refl _) _).grown hgrow (by simp) (by intro k hk; simp [Value.ownBlock] at hk; omega)
    clear hown hgrow hnil hcl
    go_wp2
    go_ret
    exact ⟨v', rfl, HO.out, HU.out⟩

/-- volumes whose blocks lie in rows of the call's own, each in another -/
structure ORd (w : World) (base : Nat) (C : List VC) (l : List Vo) : Prop where
  len : C.length = l.length
  nm : ∀ k (h : k < l.length), (C[k]'(by omega)).nm = l[k].nm
  bl : ∀ k (h : k < l.length), OIds w base (C[k]'(by omega)).sl l[k].bl
  apart : ∀ j k (hj : j < l.length) (hk : k < l.length) b, j ≠ k → (C[j]'(by omega)).sl.ownBlock = some b → (C[k]'(by omega)).sl.ownBlock ≠ some b

theorem ORd.rd {w : World} {base : Nat} {C : List VC} {l : List Vo} (h : ORd w base C l) : Rd w C l := ⟨h.len, h.nm, fun k hk => (h.bl k hk).ids⟩
theorem ORd.up {w w' : World} {base : Nat} {C : List VC} {l : List Vo} (h : ORd w base C l) (hu : Up w w') : ORd w' base C l := ⟨h.len, h.nm, fun k hk => own_up (h.bl k hk) hu, h.apart⟩
theorem ORd.base {w : World} {base base' : Nat} {C : List VC} {l : List Vo} (h : ORd w base C l) (hb : base' ≤ base) : ORd w base' C l := ⟨h.len, h.nm, fun k hk => own_base (h.bl k hk) hb, h.apart⟩

/-- volumes of the call's own -/
def OVols (w : World) (base : Nat) (v : Value) (l : List Vo) : Prop := ∃ C, OVC w base v C ∧ ORd w base C l

theorem OVols.vols {w : World} {base : Nat} {v : Value} {l : List Vo} (h : OVols w base v l) : Vols w v l := by
  obtain ⟨C, h1, h2⟩ := h
  exact ⟨C, h1.vcs, h2.rd⟩
theorem OVols.up {w w' : World} {base : Nat} {v : Value} {l : List Vo} (h : OVols w base v l) (hu : Up w w') : OVols w' base v l := by
  obtain ⟨C, h1, h2⟩ := h
  exact ⟨C, own_up h1 hu, h2.up hu⟩
theorem OVols.base {w : World} {base base' : Nat} {v : Value} {l : List Vo} (h : OVols w base v l) (hb : base' ≤ base) : OVols w base' v l := by
  obtain ⟨C, h1, h2⟩ := h
  exact ⟨C, own_base h1 hb, h2.base hb⟩

/-- a state of the call's own -/
def OSt (w : World) (base : Nat) (v : Value) (st : Sta) : Prop := ∃ vb vv, v = .agg #[vb, vv] ∧ OItems w base vb st.b ∧ OVols w base vv st.v

theorem OSt.stat {w : World} {base : Nat} {v : Value} {st : Sta} (h : OSt w base v st) : Stat w v st := by
  obtain ⟨vb, vv, rfl, h1, h2⟩ := h
  exact ⟨vb, vv, rfl, h1.items, h2.vols⟩
theorem OSt.up {w w' : World} {base : Nat} {v : Value} {st : Sta} (h : OSt w base v st) (hu : Up w w') : OSt w' base v st := by
  obtain ⟨vb, vv, rfl, h1, h2⟩ := h
  exact ⟨vb, vv, rfl, h1.up hu, h2.up hu⟩
theorem OSt.base {w : World} {base base' : Nat} {v : Value} {st : Sta} (h : OSt w base v st) (hb : base' ≤ base) : OSt w base' v st := by
  obtain ⟨vb, vv, rfl, h1, h2⟩ := h
  exact ⟨vb, vv, rfl, h1.base hb, h2.base hb⟩
theorem OSt.zero (w : World) (base : Nat) : OSt w base zeroV zeroS := ⟨_, _, rfl, OItems.nil w base, ⟨[], World.ownsRow_nil w base _ _, ⟨rfl, fun k h => absurd h (by simp [zeroS]), fun k h => absurd h (by simp [zeroS]), fun j _ h => absurd h (by simp [zeroS])⟩⟩⟩

def StPost (w : World) (st : Sta) (e : Ending) (w' : World) : Prop := ∃ v', e = .returned v' ∧ OSt w' w.heap.size v' st ∧ Up w w'

end Go.Proofs.YtcbppfndlagodaaGreatDoor

/-
  sort.Slice of a row of volumes by the reference's own closure: a permutation, each name behind the one before or alike. Conditions: the row is known whole; the closure's state holds the slice.
-/
namespace Go.Proofs.YtcbppfndlagodaaGreatDoor
open Go.RowKit
open Go.Proofs
open WoolBag
open WoolVol
open Go.Shelf Go.Lib Go.Sort

/-- a volume as it lies in memory, its slice in parts -/
structure VS where
  nm : List UInt8
  o : Option Addr
  n : Nat
  c : Nat

instance : Inhabited VS := ⟨⟨[], none, 0, 0⟩⟩

def vsC (x : VS) : List Value := [.string (bs x.nm), .slice x.o x.n x.c]
theorem vsC_len (x : VS) : (vsC x).length = 2 := rfl
def toVC (x : VS) : VC := ⟨x.nm, .slice x.o x.n x.c⟩
theorem vsC_vc (x : VS) : vcC (toVC x) = vsC x := rfl
theorem fl_vs : ∀ d : List VS, fl vcC (d.map toVC) = fl vsC d
  | [] => rfl
  | x :: r => by show vcC (toVC x) ++ fl vcC (r.map toVC) = vsC x ++ fl vsC r; rw [fl_vs r]; rfl

def ltV (a b : VS) : Bool := slt a.nm b.nm

noncomputable def voT : TypeInfo := (Tryz.prog.info? 23).get (by kernel_rfl)
noncomputable def voE : TypeInfo := (Tryz.prog.info? 47).get (by kernel_rfl)

theorem voK (n : Nat) (h2 : 2 ≤ n) : Lib.swapperK n voE 25 = 9 := by
  have a : voE.hasPointers = true := by kernel_rfl
  have b : voE.bytes = 40 := by kernel_rfl
  have c : (n == 0) = false := by simp; omega
  have d : (n == 1) = false := by simp; omega
  simp [Lib.swapperK, a, b, c, d]

theorem swo_lt : SWO ltV where
  irrefl := fun x => slt_irrefl _
  trans := fun x y z h1 h2 => slt_trans h1 h2
  ntrans := fun x y z h1 h2 => by
    unfold ltV at *
    cases hh : slt x.nm z.nm with
    | false => rfl
    | true =>
      rcases slt_total y.nm z.nm with h | h | h
      · rw [h] at h2; cases h2
      · rw [← h] at hh; rw [hh] at h1; cases h1
      · have := slt_trans hh h; rw [this] at h1; cases h1

set_option maxRecDepth 100000 in
set_option maxHeartbeats 1000000 in
theorem lessV (blk c Bs size : Nat) (W : World) (dk : Nat → VS) (hs : W.cell? ⟨Bs, 1, none⟩ = some (.slice (some ⟨blk, 0, none⟩) size c))
    (hc0 : ∀ t, t < size → W.cell? ⟨blk, t * 2, none⟩ = some (.string (bs (dk t).nm))) (i j : Nat) (hi : i < size) (hj : j < size) (_hsz : size < 4611686018427387904) :
    Calls Tryz.prog 63 #[.int .i64 i, .int .i64 j, .pointer (some ⟨Bs, 0, none⟩)] W fun e w' => e = .returned (.bool (ltV (dk i) (dk j))) ∧ ∃ q, w' = W.drewN q := by
  have ci := hc0 i hi
  have cj := hc0 j hj
  have hb : Op.bytesLess (bs (dk i).nm).toList (bs (dk j).nm).toList = slt (dk i).nm (dk j).nm := by
    have h1 : ∀ a : List UInt8, (bs a).toList = a := fun a => by rw [ByteArray.toList_eq, bs_list]
    rw [h1, h1, slt_bytes]
  have hR : ltV (dk i) (dk j) = slt (dk i).nm (dk j).nm := rfl
  rw [hR]
  generalize slt (dk i).nm (dk j).nm = R at hb ⊢
  generalize bs (dk i).nm = a at *
  generalize bs (dk j).nm = b at *
  clear hc0 hR
  go_enter Tryz.func63, Tryz.ntmps63
  go_wp2_with fail
  go_quiet (fail)
  go_wp2_with fail
  go_ret
  exact ⟨by simp [go_sem], nq, rfl⟩

theorem flat_vs (d : List VS) : (flatK vsC 2 d.toArray).toList = fl vsC d := by
  apply List.ext_getElem
  · rw [Array.length_toList, size_flatK, fl_length vsC_len]; simp
  · intro t h1 h2
    rw [fl_length vsC_len] at h2
    have ht : t < d.toArray.size * 2 := by simpa using h2
    have e := get_flatK vsC 2 d.toArray t ht
    have e1 : (flatK vsC 2 d.toArray).toList[t] = (flatK vsC 2 d.toArray)[t]! := by
      rw [Array.length_toList] at h1
      rw [getElem!_pos _ t h1]; rfl
    rw [e1, e]
    have hd : t / 2 < d.length := by omega
    have e2 : d.toArray[t / 2]! = d[t / 2] := by rw [getElem!_pos d.toArray (t / 2) (by simpa using hd)]; simp
    rw [e2]
    have hm : t % 2 < 2 := Nat.mod_lt _ (by omega)
    have hg := fl_get vsC_len d (t / 2) hd (t % 2) hm
    rw [show t / 2 * 2 + t % 2 = t by omega, List.getElem?_eq_getElem (by rw [fl_length vsC_len]; exact h2), List.getElem?_eq_getElem (by rw [vsC_len]; exact hm)] at hg
    rw [Option.some.inj hg, getElem!_pos _ _ (by rw [vsC_len]; exact hm)]

theorem holds_rowV {w : World} {blk : Nat} {d : List VS} {sp : List Value} (h : RowC w blk 47 (fl vsC d ++ sp)) : HoldsK vsC 2 w blk 0 d.toArray := by
  intro t ht
  rw [size_flatK] at ht
  have ht' : t < d.length * 2 := by simpa using ht
  rw [Nat.zero_add]
  refine ⟨h.cell ?_, h.frozen t⟩
  have e : (flatK vsC 2 d.toArray)[t]! = (fl vsC d)[t]'(by rw [fl_length vsC_len]; exact ht') := by
    have h1 : (flatK vsC 2 d.toArray).toList[t]'(by rw [flat_vs, fl_length vsC_len]; exact ht') = (fl vsC d)[t]'(by rw [fl_length vsC_len]; exact ht') := by simp only [flat_vs]
    rw [← h1, getElem!_pos _ t (by rw [size_flatK]; exact ht)]; rfl
  rw [List.getElem?_append_left (by rw [fl_length vsC_len]; exact ht'), e]
  exact List.getElem?_eq_getElem _

/-- what sort.Slice leaves -/
def SortVPost (blk c : Nat) (d : List VS) (w : World) (e : Ending) (w' : World) : Prop :=
  e = .returned (.tuple #[]) ∧ ∃ d' : List VS, d'.Perm d ∧ d'.Pairwise (fun a b => slt b.nm a.nm = false) ∧ VCs w' (.slice (some ⟨blk, 0, none⟩) d.length c) (d'.map toVC) ∧ w.grownBy w' (some blk)

theorem grown_putV (w : World) (n blk off : Nat) (d : Array VS) : w.grownBy (putRowK vsC 2 (Sort.ahead w n) blk off d) (some blk) := by
  refine ⟨rfl, rfl, rfl, by unfold putRowK; rw [size_putRow]; exact Nat.le_refl _, fun k hk hne => ?_⟩
  have hkb : blk ≠ k := fun e => hne (by rw [e])
  unfold putRowK putRow mapBlock
  simp [Array.getElem?_modify, hkb, Sort.ahead]

set_option maxHeartbeats 4000000 in
theorem sortV (blk c Bs : Nat) (d : List VS) (sp : List Value) (w : World) (hrow : RowC w blk 47 (fl vsC d ++ sp)) (hs : w.cell? ⟨Bs, 1, none⟩ = some (.slice (some ⟨blk, 0, none⟩) d.length c)) (hne : Bs ≠ blk) (hd : d.length ≤ 100) (h1 : 1 ≤ d.length) (hc : d.length ≤ c) (hcm : c ≤ maxLen) :
    Calls Tryz.prog 62 #[.iface 23 (.slice (some ⟨blk, 0, none⟩) d.length c), .func (.func 63) #[] #[.pointer (some ⟨Bs, 0, none⟩)]] w (SortVPost blk c d w) := by
  have hBs : Bs < w.heap.size := World.block_lt_of_cell? w _ hs
  by_cases h2 : d.length = 1
  · have ht := Any.sort_Slice_tiny Tryz.laysGg6 23 47 voT voE (by kernel_rfl) (by kernel_rfl) (by kernel_rfl) (by kernel_rfl) 25 (fun _ => by kernel_rfl) (some ⟨blk, 0, none⟩) d.length c (by omega) 114
      (by rw [h2]; kernel_rfl) (.func 63) #[] #[.pointer (some ⟨Bs, 0, none⟩)] w
    change Calls Tryz.prog 62 _ _ _ at ht
    refine ht.mono ?_
    rintro e w' ⟨rfl, os, rfl⟩
    have hg := grown_grow w os (some blk)
    refine ⟨rfl, d, List.Perm.refl _, ?_, ?_, hg⟩
    · exact List.pairwise_iff_getElem.2 (fun i j hi hj hij => by omega)
    · unfold VCs
      rw [List.length_map, fl_vs]
      refine ⟨fl_length vsC_len d, _, c, rfl, hc, hcm, .inr ⟨blk, 0, rfl, fun j v hv => ?_⟩⟩
      rw [Nat.zero_add, cell?_grow _ _ _ hrow.lt]
      refine hrow.cell ?_
      rw [List.getElem?_append_left ((List.getElem?_eq_some_iff.1 hv).1)]; exact hv
  · have hH := holds_rowV hrow
    have hb := hrow.lt
    have hless : LessReadsK Tryz.prog 63 #[.pointer (some ⟨Bs, 0, none⟩)] vsC 2 ltV blk 0 d.toArray.size w := by
      intro m os dk hsz i j hi hj
      have e : sortWorldK vsC 2 w blk 0 m dk os = putRowK vsC 2 (Go.Sort.grow (Sort.ahead w m) os) blk 0 dk := by
        unfold sortWorldK; rw [putRowK_grow _ _ (Sort.ahead w m) _ blk 0 _ hb]
      have hHg : HoldsK vsC 2 (Go.Sort.grow (Sort.ahead w m) os) blk 0 d.toArray := holdsK_grow _ _ _ _ blk 0 _ hb (holdsK_ahead _ _ _ _ _ _ _ hH)
      have hcc := holdsK_putRowK _ _ _ blk 0 d.toArray dk hHg hsz
      refine lessV blk c Bs d.toArray.size _ (fun t => dk[t]!) ?_ (fun t ht => ?_) i j hi hj (by simp; omega)
      · rw [e, cell?_putRowK_other _ _ _ blk 0 dk _ hne, cell?_grow _ _ _ hBs]
        rw [List.size_toArray]
        exact hs
      · rw [e]
        have := (hcc.cell (i := t) (c := 0) (by omega) (by omega)).1
        rw [Nat.zero_add, Nat.add_zero] at this
        exact this
    have hS := Any.sort_Slice_cells_sorted Tryz.laysGg6 23 47 voT voE (by kernel_rfl) (by kernel_rfl) (by kernel_rfl) (by kernel_rfl) 25 (fun _ => by kernel_rfl) vsC 2 (fun _ => rfl) (by kernel_rfl) (fun _ => by kernel_rfl)
      (fun x v hv => by unfold vsC at hv; simp at hv; rcases hv with rfl | rfl <;> rfl) ltV swo_lt 63 #[.pointer (some ⟨Bs, 0, none⟩)]
      (enters_of Tryz.func63 (by kernel_rfl) rfl) blk 0 c d.toArray (by simp; omega) (by simp; omega) 121 (by rw [voK _ (by simp; omega)]; kernel_rfl) false
      (fun args W => run_callFunc_extern Tryz.func121 (by kernel_rfl) (by kernel_rfl) (by kernel_rfl) (e := Extern.ReflectliteSwapper.swap false) (by kernel_rfl) args W) w hless hH hb
    change Calls Tryz.prog 62 _ _ _ at hS
    rw [List.size_toArray] at hS
    refine hS.mono ?_
    rintro e w' ⟨rfl, d', n, os, hP, hSo, rfl⟩
    obtain ⟨hsz, _, hperm⟩ := hP
    have hsz' : d'.size = d.length := by simpa using hsz
    have hsl : d'.toList.length = d.length := by rw [Array.length_toList]; exact hsz'
    refine ⟨rfl, d'.toList, ?_, ?_, ?_, ?_⟩
    · have e1 : (d'.extract 0 d.length).toList = d'.toList := by rw [← hsz', Array.extract_size]
      have e2 : (d.toArray.extract 0 d.length).toList = d := by
        have : d.length = d.toArray.size := by simp
        rw [this, Array.extract_size]
      rw [e1, e2] at hperm
      exact hperm
    · rw [List.pairwise_iff_getElem]
      intro i j hi hj hij
      have := hSo i j (Nat.zero_le _) hij (by rw [← hsl]; exact hj)
      rw [getElem!_pos d' j (by rw [hsz']; rw [hsl] at hj; exact hj), getElem!_pos d' i (by rw [hsz']; rw [hsl] at hi; exact hi)] at this
      exact this
    · unfold VCs
      rw [List.length_map, fl_vs, hsl]
      have hbp : blk < (putRowK vsC 2 (Sort.ahead w n) blk 0 d').heap.size := by unfold putRowK; rw [size_putRow]; exact hb
      have hcc := holdsK_putRowK vsC 2 (Sort.ahead w n) blk 0 d.toArray d' (holdsK_ahead _ _ _ _ _ _ _ hH) hsz
      refine ⟨by rw [fl_length vsC_len, hsl], _, c, rfl, hc, hcm, .inr ⟨blk, 0, rfl, fun t v hv => ?_⟩⟩
      have ht : t < d.length * 2 := by
        have := (List.getElem?_eq_some_iff.1 hv).1
        rwa [fl_length vsC_len, hsl] at this
      have hk : t / 2 < d.length := by omega
      have hm : t % 2 < 2 := Nat.mod_lt _ (by omega)
      have hget : d'[t / 2]! = d'.toList[t / 2]'(by rw [hsl]; exact hk) := by rw [getElem!_pos d' (t / 2) (by rw [hsz']; exact hk)]; rfl
      have hg := fl_get vsC_len d'.toList (t / 2) (by rw [hsl]; exact hk) (t % 2) hm
      rw [show t / 2 * 2 + t % 2 = t by omega, hv, ← hget] at hg
      rw [cell?_grow _ _ _ hbp]
      have hcell := (hcc.cell (i := t / 2) (c := t % 2) (by rw [hsz']; exact hk) hm).1
      rw [Nat.zero_add, show t / 2 * 2 + t % 2 = t by omega] at hcell
      rw [Nat.zero_add, hcell, hg]
      rw [getElem!_pos _ _ (by rw [vsC_len]; exact hm), List.getElem?_eq_getElem (by rw [vsC_len]; exact hm)]
    · have h1 := grown_putV w n blk 0 d'
      have h2 := grown_grow (putRowK vsC 2 (Sort.ahead w n) blk 0 d') os (some blk)
      exact ⟨h1.os, h1.tape, h1.output, Nat.le_trans h1.size h2.size, fun k hk hne => (h2.block k (Nat.lt_of_lt_of_le hk h1.size) hne).trans (h1.block k hk hne)⟩

end Go.Proofs.YtcbppfndlagodaaGreatDoor
