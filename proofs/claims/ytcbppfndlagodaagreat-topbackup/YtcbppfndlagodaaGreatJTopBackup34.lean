/-
  The texts Split, GoodWf, one behind the other; each says below what it holds and on what conditions.
-/
import Derived.Test.YtcbppfndlagodaaGreatJTopBackup33
import Derived.Test.YtcbppfndlagodaaGreatJTopBackup17
import Derived.Test.YtcbppfndlagodaaGreatJTopBackup19

/-
  What dividing and Split of package cut return, and slices.Equal (of strings), for every text and every row of ints. Conditions: as each says.
-/
namespace Go.Proofs.YtcbppfndlagodaaGreat
open Go.RowKit
open Go.Proofs

/-- a slice of integers that came in: nil, or a row of cells -/
def IsRow (k : IntKind) (w : World) (a : Option Addr) (len cap : Nat) (zs : List Int) : Prop :=
  (a = none ∧ len = 0 ∧ cap = 0 ∧ zs = []) ∨
  ∃ x, a = some x ∧ len ≤ cap ∧ cap ≤ maxLen ∧ zs.length = cap ∧ (∀ i, i < zs.length → w.cell? (x.add i) = some (.int k (zs.getD i 0))) ∧ ∀ n ∈ zs, (Lit.int k n).wf = true

/-- a slice that reads as a list of ints -/
def Seen (w : World) (v : Value) (zs : List Int) : Prop :=
  ∃ o c, v = .slice o zs.length c ∧ zs.length ≤ c ∧ c ≤ 9223372036854775807 ∧ (zs = [] ∨ ∃ b off, o = some ⟨b, off, none⟩ ∧ ∀ k (h : k < zs.length), w.cell? ⟨b, off + k, none⟩ = some (.int .i64 zs[k]))

theorem Seen.up {w w' : World} {v : Value} {zs : List Int} (h : Seen w v zs) (hu : Up w w') : Seen w' v zs := by
  obtain ⟨o, c, h1, h2, h3, h4⟩ := h
  refine ⟨o, c, h1, h2, h3, ?_⟩
  rcases h4 with h4 | ⟨b, off, h5, h6⟩
  · exact .inl h4
  · refine .inr ⟨b, off, h5, fun k hk => ?_⟩
    have := h6 k hk
    exact (hu.cell (World.block_lt_of_cell? w _ this)).trans this

theorem Ints.seen {w : World} {base : Nat} {v : Value} {l : List Nat} (h : Ints w base v l) : Seen w v (l.map fun x : Nat => (x : Int)) := by
  rcases h.2 with ⟨rfl, h0⟩ | ⟨g, cap, cur, rfl, _, _, h3, h4, _⟩
  · have : l = [] := List.eq_nil_of_length_eq_zero h0
    subst this
    exact ⟨none, 0, rfl, Nat.le_refl _, by omega, .inl rfl⟩
  · refine ⟨_, cap, by rw [List.length_map], by rw [List.length_map]; exact h3, by unfold maxLen at h4; omega, .inr ⟨g, 0, rfl, fun k hk => ?_⟩⟩
    rw [List.length_map] at hk
    rw [Nat.zero_add, List.getElem_map]
    exact h.cell k hk

theorem row_seen {w : World} {a : Option Addr} {len cap : Nat} {zs : List Int} (h : IsRow .i64 w a len cap zs) : Seen w (.slice a len cap) (zs.take len) ∧ ∀ n ∈ zs.take len, (Lit.int .i64 n).wf = true := by
  rcases h with ⟨rfl, rfl, rfl, rfl⟩ | ⟨x, rfl, h1, h2, h3, h4, h5⟩
  · exact ⟨⟨none, 0, rfl, Nat.le_refl _, by omega, .inl rfl⟩, fun n hn => by simp at hn⟩
  · refine ⟨?_, fun n hn => h5 n (List.mem_of_mem_take hn)⟩
    have hlen : (zs.take len).length = len := by rw [List.length_take]; omega
    refine ⟨some x, cap, by rw [hlen], by rw [hlen]; exact h1, by unfold maxLen at h2; omega, ?_⟩
    by_cases h0 : len = 0
    · left; subst h0; rfl
    · right
      obtain ⟨b, off, spot⟩ := x
      have hs0 := h4 0 (by omega)
      have hspot : spot = none := by simpa [Addr.add] using World.cell?_spot hs0
      subst hspot
      refine ⟨b, off, rfl, fun k hk => ?_⟩
      have hk2 : k < zs.length := by rw [hlen] at hk; omega
      have hk' := h4 k hk2
      have ea : (⟨b, off, none⟩ : Addr).add k = ⟨b, off + k, none⟩ := by
        unfold Addr.add
        split
        · rename_i h; subst h; simp
        · rfl
      rw [ea] at hk'
      rw [hk', List.getElem_take]
      simp [hk2]

/-- do the ends, from a place on, rise to n? -/
def divs (last : Int) : List Int → Int → Bool
  | [], n => last == n
  | e :: r, n => if e ≤ last then false else divs e r n

theorem divs_gt (n : Int) : ∀ (r : List Int) (last : Int), n < last → divs last r n = false
  | [], last, h => by unfold divs; rw [beq_eq_false_iff_ne]; omega
  | e :: r, last, h => by
    unfold divs
    by_cases he : e ≤ last
    · rw [if_pos he]
    · rw [if_neg he]; exact divs_gt n r e (by omega)

theorem divs_len (n : Int) : ∀ (r : List Int) (last : Int), divs last r n = true → (r.length : Int) ≤ n - last
  | [], last, h => by unfold divs at h; rw [beq_iff_eq] at h; subst h; simp
  | e :: r, last, h => by
    unfold divs at h
    by_cases he : e ≤ last
    · rw [if_pos he] at h; cases h
    · rw [if_neg he] at h
      have := divs_len n r e h
      rw [List.length_cons]
      omega

theorem drop_cons (zs : List Int) (k : Nat) (h : k < zs.length) : zs.drop k = zs[k] :: zs.drop (k + 1) := List.drop_eq_getElem_cons h

def DivdRel (zs : List Int) (n : Int) (last i : Value) : Prop := ∃ (k : Nat) (L : Int), k ≤ zs.length ∧ i = .int .i64 k ∧ last = .int .i64 L ∧ divs 0 zs n = divs L (zs.drop k) n

set_option maxRecDepth 100000 in
set_option maxHeartbeats 400000 in
theorem dividing_any (v : Value) (zs : List Int) (n : Int) (w : World) (h : Seen w v zs) :
    Calls Tryz.prog 39 #[v, .int .i64 n] w fun e w' => e = .returned (.bool (divs 0 zs n)) ∧ w = w' := by
  obtain ⟨o, c, rfl, h2, h3, h4⟩ := h
  generalize hB : divs 0 zs n = B
  have HB := Lib.hid hB
  have H4 := Lib.hid h4
  clear hB h4
  go_enter Tryz.func39, Tryz.ntmps39
  go_wp2_with fail
  go_loop [5, 10] (fun last i => DivdRel zs n last i) (fun _ i => zs.length - (intOf i).toNat)
  case atStart => exact ⟨0, 0, by omega, rfl, rfl, rfl⟩
  case round =>
    obtain ⟨k, L, hk, rfl, rfl, hd⟩ := hrel
    rw [HB.out] at hd
    by_cases hlt : k < zs.length
    · rcases H4.out with h5 | ⟨b, off, rfl, h5⟩
      · rw [h5] at hlt; simp at hlt
      · have hcell := h5 k hlt
        rw [drop_cons zs k hlt] at hd
        unfold divs at hd
        generalize zs[k] = z at *
        clear h5
        by_cases hz : z ≤ L
        · rw [if_pos hz] at hd
          subst hd
          go_wp2_with fail
          go_ret
          exact ⟨rfl, rfl⟩
        · rw [if_neg hz] at hd
          have HD := Lib.hid hd
          clear hd
          go_wp2_with fail
          go_round
          case rel => exact ⟨k + 1, z, by omega, by go_num, rfl, by rw [HB.out]; exact HD.out⟩
          case measure => simp only [intOf]; omega
    · have d : decide (k < zs.length) = false := by rw [decide_eq_false_iff_not]; omega
      rw [List.drop_of_length_le (by omega)] at hd
      unfold divs at hd
      subst hd
      go_wp2_with fail
      go_ret
      exact ⟨rfl, rfl⟩

/-! ytcbppfndlagodaagreat# strings.Clone -/

/-! ytcbppfndlagodaagreat# a slice of texts -/

def strL (l : List ByteArray) : List Value := l.map fun s : ByteArray => .string s

theorem strL_length (l : List ByteArray) : (strL l).length = l.length := by simp [strL]
theorem strL_get (l : List ByteArray) (j : Nat) (h : j < l.length) : (strL l)[j]? = some (.string l[j]) := by
  simp [strL, h]
theorem strL_snoc (l : List ByteArray) (x : ByteArray) : strL (l ++ [x]) = strL l ++ [.string x] := by simp [strL]

theorem strInfo : (Tryz.prog.info? 9).map (fun i => (i.zero, i.size, i.bytes)) = some (some (.string ⟨#[]⟩), 1, 16) := by kernel_rfl

/-- a slice of strings that reads as a list -/
def Strs (w : World) (base : Nat) (v : Value) (l : List ByteArray) : Prop := w.ownsRow base 9 1 v l.length (strL l)

theorem Strs.up {w w' : World} {base : Nat} {v : Value} {l : List ByteArray} (h : Strs w base v l) (hu : Up w w') : Strs w' base v l := by
  refine ⟨h.1, ?_⟩
  rcases h.2 with h | ⟨g, cap, cur, h1, h2, h3, h4⟩
  · exact .inl h
  · refine .inr ⟨g, cap, cur, h1, h2, ?_, h4⟩
    have hg : g < w.heap.size := by
      rcases Nat.lt_or_ge g w.heap.size with hlt | hge
      · exact hlt
      · rw [Array.getElem?_eq_none hge] at h3; cases h3
    rw [← h3]; exact hu.block g hg

theorem Strs.shape {w : World} {base : Nat} {v : Value} {l : List ByteArray} (h : Strs w base v l) : ∃ o c, v = .slice o l.length c := by
  rcases h.2 with ⟨rfl, h0⟩ | ⟨g, cap, cur, rfl, _⟩
  · exact ⟨_, _, by rw [h0]⟩
  · exact ⟨_, _, rfl⟩

theorem Strs.block {w : World} {base : Nat} {v : Value} {l : List ByteArray} (h : Strs w base v l) (hn : 0 < l.length) : ∃ g c, v = .slice (some ⟨g, 0, none⟩) l.length c ∧ base ≤ g ∧ g < w.heap.size ∧ l.length ≤ c ∧ c ≤ maxLen := by
  rcases h.2 with ⟨rfl, h0⟩ | ⟨g, cap, cur, rfl, h2, h3, h4, h5, _⟩
  · omega
  · refine ⟨g, cap, rfl, h2, ?_, h4, h5⟩
    rcases Nat.lt_or_ge g w.heap.size with hlt | hge
    · exact hlt
    · rw [Array.getElem?_eq_none hge] at h3; cases h3

theorem Strs.cell {w : World} {base g c : Nat} {l : List ByteArray} (h : Strs w base (.slice (some ⟨g, 0, none⟩) l.length c) l) (j : Nat) (hj : j < l.length) : w.cell? ⟨g, j, none⟩ = some (.string l[j]) :=
  (World.ownsRow.cellAt h j (by omega)).trans (strL_get l j hj)

theorem Strs.nil (w : World) (base : Nat) : Strs w base (.slice none 0 0) [] := World.ownsRow_nil _ _ _ _

/-- the pieces of a text, from a place on -/
def pieces (s : ByteArray) (b : Nat) : List Int → List ByteArray
  | [] => []
  | e :: r => s.extract b e.toNat :: pieces s e.toNat r

theorem pieces_nil (s : ByteArray) (b : Nat) : pieces s b [] = [] := rfl

theorem pieces_cons (s : ByteArray) (b : Nat) (e : Int) (r : List Int) : pieces s b (e :: r) = s.extract b e.toNat :: pieces s e.toNat r := rfl

theorem pieces_length (s : ByteArray) : ∀ (r : List Int) (b : Nat), (pieces s b r).length = r.length
  | [], _ => rfl
  | e :: r, b => by rw [pieces, List.length_cons, List.length_cons, pieces_length s r]

def SplitRel (s : ByteArray) (zs : List Int) (w : World) (chunks b i : Value) (wr : World) : Prop :=
  ∃ (k B : Nat) (l : List ByteArray), k ≤ zs.length ∧ B ≤ s.size ∧ i = .int .i64 k ∧ b = .int .i64 B ∧ divs (B : Int) (zs.drop k) (s.size : Int) = true ∧
    pieces s 0 zs = l ++ pieces s B (zs.drop k) ∧ Strs wr w.heap.size chunks l ∧ Up w wr

def SplitPost (s : ByteArray) (zs : List Int) (w : World) (e : Ending) (w' : World) : Prop :=
  ∃ v : Value, e = .returned (.tuple #[v, .int .i64 0]) ∧ Strs w' w.heap.size v (pieces s 0 zs) ∧ Up w w'

set_option maxRecDepth 100000 in
set_option maxHeartbeats 1000000 in
theorem split_ok (s : ByteArray) (v : Value) (zs : List Int) (w : World) (hs : s.size ≤ 600) (h : Seen w v zs) (hd : divs 0 zs (s.size : Int) = true) :
    Calls Tryz.prog 17 #[.string s, v] w (SplitPost s zs w) := by
  have HSEEN := Lib.hid h
  obtain ⟨o, c, rfl, h2, h3, h4⟩ := h
  have H4 := Lib.hid h4
  have HD := Lib.hid hd
  have hlz := divs_len _ _ _ hd
  obtain ⟨i0, hi, hz0, hz1, hz2⟩ := info_parts strInfo
  have HI := Lib.hid hi
  have HZ0 := Lib.hid hz0
  have HZ1 := Lib.hid hz1
  have HZ2 := Lib.hid hz2
  have d6 : decide (600 < (s.size : Int)) = false := by rw [decide_eq_false_iff_not]; omega
  clear hi hz0 hz1 hz2 h4 hd
  go_enter Tryz.func17, Tryz.ntmps17
  go_wp2_with fail
  refine (dividing_any _ zs _ _ HSEEN.out).mono ?_
  rintro e w1 ⟨rfl, rfl⟩
  rw [HD.out]
  go_wp2_with fail
  go_loopw [6, 7, 20] (fun ch b i wr => SplitRel s zs w ch b i wr) (fun _ _ i _ => zs.length - (intOf i).toNat)
  case atStart => exact ⟨0, 0, [], by omega, by omega, rfl, rfl, HD.out, rfl, Strs.nil _ _, Up.refl w⟩
  case round =>
    obtain ⟨k, B, l, hk, hB, rfl, rfl, hdv, hpc, hst, hu⟩ := hrel
    have HPC := Lib.hid hpc
    have HST := Lib.hid hst
    have HU := Lib.hid hu
    by_cases hlt : k < zs.length
    · rcases H4.out with h5 | ⟨b, off, rfl, h5⟩
      · rw [h5] at hlt; simp at hlt
      · have hcell := h5 k hlt
        rw [← hu.cell (World.block_lt_of_cell? w _ hcell)] at hcell
        rw [drop_cons zs k hlt] at hdv hpc
        unfold divs at hdv
        rw [pieces_cons] at hpc
        generalize zs[k] = z at *
        by_cases hz : z ≤ (B : Int)
        · rw [if_pos hz] at hdv; cases hdv
        · rw [if_neg hz] at hdv
          have hzn : z ≤ (s.size : Int) := by
            apply Int.le_of_not_gt
            intro hgt
            rw [divs_gt _ _ _ hgt] at hdv
            cases hdv
          obtain ⟨Z, rfl⟩ := Int.eq_ofNat_of_zero_le (show 0 ≤ z by omega)
          rw [Int.toNat_natCast] at hpc
          have hpc2 : pieces s 0 zs = (l ++ [s.extract B Z]) ++ pieces s Z (zs.drop (k + 1)) := by rw [hpc, List.append_assoc]; rfl
          have HPC2 := Lib.hid hpc2
          have HDV := Lib.hid hdv
          have hll : l.length ≤ 600 := by
            have := congrArg List.length hpc
            rw [pieces_length, List.length_append] at this
            omega
          have hes : (s.extract B Z).size ≤ 1000 := by rw [ByteArray.size_extract]; omega
          have hszw := hu.size
          clear hdv hpc hpc2 hst hu h5
          go_wp2_with fail
          refine (clone_str _ _ hes).mono ?_
          rintro e w2 ⟨rfl, u2⟩
          have HS2 := Lib.hid (HST.out.up u2)
          have HU2 := Lib.hid (HU.out.trans u2)
          have hs2 := HU2.out.size
          clear u2
          generalize hX : s.extract B Z = X at *
          have HX := Lib.hid hX
          clear hX
          go_wp2_with (at_builtin; refine wpList_append_own _ rfl _ _ 37 rfl w.heap.size 9 i0 (.string ⟨#[]⟩) 1 16 Tryz.underlying37 HI.out HZ0.out HZ1.out HZ2.out rfl (by decide) _ _ _ rfl (World.ownsRow.alloc HS2.out _) ⟨w2.heap.size, 0, none⟩ 1 1 [.string X] rfl rfl (cell_one_new _ _ _) (one_mem' _ rfl) (by unfold maxLen; omega) (by omega) (by simp; omega) ?_)
          intro v' w3 hown' hgrow _
          have hBB : Strs w3 w.heap.size v' (l ++ [X]) := by
            unfold Strs
            rw [strL_snoc, List.length_append]
            exact hown'
          have hUp : Up w w3 := grown_up' (HU2.out.trans (Up.alloc _ _)) (World.ownsRow.alloc HS2.out _) hgrow
          have HBB := Lib.hid hBB
          have HUP := Lib.hid hUp
          clear hown' hgrow hBB hUp
          go_wp2_with fail
          go_roundw
          case rel => exact ⟨k + 1, Z, l ++ [X], by omega, by omega, by go_num, rfl, HDV.out, HPC2.out, HBB.out, HUP.out⟩
          case measure => simp only [intOf]; omega
    · have d : decide (k < zs.length) = false := by rw [decide_eq_false_iff_not]; omega
      rw [List.drop_of_length_le (by omega)] at hpc
      rw [pieces_nil, List.append_nil] at hpc
      have HP := Lib.hid hpc
      clear hpc hdv hst hu
      go_wp2_with fail
      go_ret2
      exact ⟨_, rfl, by rw [HP.out]; exact HST.out, HU.out⟩

set_option maxRecDepth 100000 in
theorem split_bad (s : ByteArray) (v : Value) (zs : List Int) (w : World) (hs : s.size ≤ 600) (h : Seen w v zs) (hd : divs 0 zs (s.size : Int) = false) :
    Calls Tryz.prog 17 #[.string s, v] w fun e w' => e = .returned (.tuple #[.slice none 0 0, .int .i64 3]) ∧ w = w' := by
  have HSEEN := Lib.hid h
  obtain ⟨o, c, rfl, _⟩ := h
  have HD := Lib.hid hd
  clear hd
  go_enter Tryz.func17, Tryz.ntmps17
  go_wp2_with fail
  refine (dividing_any _ zs _ _ HSEEN.out).mono ?_
  rintro e w1 ⟨rfl, rfl⟩
  rw [HD.out]
  go_wp2_with fail
  go_ret2
  exact ⟨rfl, rfl⟩

set_option maxRecDepth 100000 in
theorem split_long (s : ByteArray) (o : Option Addr) (n c : Nat) (w : World) (hs : 600 < s.size) :
    Calls Tryz.prog 17 #[.string s, .slice o n c] w fun e w' => e = .returned (.tuple #[.slice none 0 0, .int .i64 2]) ∧ w = w' := by
  go_enter Tryz.func17, Tryz.ntmps17
  go_wp2_with fail
  go_ret2
  exact ⟨rfl, rfl⟩

/-! ytcbppfndlagodaagreat# slices.Equal, of strings -/

end Go.Proofs.YtcbppfndlagodaaGreat

/-
  Valid states fit: what is in one can stand in a map's key. Conditions: as each says.
-/
namespace Go.Proofs.YtcbppfndlagodaaGreat
open Go.RowKit
open Go.Proofs
open WoolBag
open WoolVol

theorem wf_of {x : Int} (h1 : 0 ≤ x) (h2 : x ≤ 1073741824) : (Lit.int .i64 x).wf = true := by
  simp only [Lit.wf, Bool.and_eq_true, decide_eq_true_eq]
  exact ⟨by show (-9223372036854775808 : Int) ≤ _; omega, by show _ ≤ (9223372036854775807 : Int); omega⟩

theorem good_wf {st : Sta} (g : WoolVol.Good FP st) : WfS st := by
  intro v hv
  obtain ⟨hn, _, hb⟩ := g.vol v hv
  refine ⟨fun i hi => ?_, ?_⟩
  · have he := hb i hi
    cases h1 : i.1 with
    | false =>
      rw [errB_hole he h1]
      exact ⟨wf_of (by simp [noId]) (by simp [noId]), wf_of (by simp [noId]) (by simp [noId])⟩
    | true =>
      obtain ⟨x, hx, rfl⟩ := errB_in he h1
      have hok := g.bag.ok x hx
      have hs : x.s = FP x.t := hok.2.1
      have hle := fp_le 65581 (by omega) (by omega) x.t
      have hn1 := hok.2.2.1
      have hn2 := hok.2.2.2.1
      refine ⟨?_, ?_⟩
      · show (Lit.int .i64 x.s).wf = true
        rw [hs]
        exact wf_of (by unfold FP; omega) (by unfold FP; omega)
      · show (Lit.int .i64 x.n).wf = true
        exact wf_of (by omega) (by omega)
  · unfold nameB at hn
    simp at hn
    omega

end Go.Proofs.YtcbppfndlagodaaGreat
