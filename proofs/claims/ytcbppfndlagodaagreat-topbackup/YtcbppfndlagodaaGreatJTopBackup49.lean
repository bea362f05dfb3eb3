/-
  The texts BackO, VolT, VolZ, one behind the other; each says below what it holds and on what conditions.
-/
import Derived.Test.YtcbppfndlagodaaGreatJTopBackup31
import Derived.Test.YtcbppfndlagodaaGreatJTopBackup39
import Derived.Test.YtcbppfndlagodaaGreatJTopBackup41
import Derived.Test.YtcbppfndlagodaaGreatJTopBackup48
import Derived.Test.YtcbppfndlagodaaGreatJTopBackup35
import Derived.Test.YtcbppfndlagodaaGreatJTopBackup22
import Derived.Test.YtcbppfndlagodaaGreatJTopBackup37

/-
  A clone that is written and copied back, in plain words: what is copied reads as the original. Conditions: as each says.
-/
namespace Go.Proofs.YtcbppfndlagodaaGreat
open WoolBag
open WoolVol

theorem CpI.other {st0 cur cur' : Sta} {kf k j : Nat} {o : Option (List UInt8)} (h : CpI st0 kf cur) (hk : Keeps FP cur cur' k j o) (hne : kf ≠ k) : CpI st0 kf cur' := by
  refine ⟨hk.good, hk.len.trans h.len, fun q hq hq' => ?_, fun p hkf hp => ?_⟩
  · have hqc : q < cur.v.length := by rw [h.len]; exact hq
    exact ⟨(hk.vol q hqc hq').1.trans (h.vol q hq hqc).1, (hk.vol q hqc hq').2.trans (h.vol q hq hqc).2⟩
  · have hqc : kf < cur.v.length := by rw [h.len]; exact hkf
    rw [hk.txt kf p hqc (by rw [(h.vol kf hkf hqc).2]; exact hp), if_neg (fun e => hne e.1), h.txt p hkf hp]

/-- two volumes, 'a' and 'b', of q blocks each; 'a' reads as the pieces P -/
structure Two (P : List (List UInt8)) (q : Nat) (st : Sta) : Prop where
  good : WoolVol.Good FP st
  len : st.v.length = 2
  na : vix (nmB [97]) st.v = some 0
  nb : vix (nmB [98]) st.v = some 1
  la : ∀ h : 0 < st.v.length, st.v[0].bl.length = q
  lb : ∀ h : 1 < st.v.length, st.v[1].bl.length = q
  txt : ∀ i, i < q → txAt st 0 i = P[i]?

theorem Two.keeps {P : List (List UInt8)} {q j : Nat} {st st' : Sta} {o : Option (List UInt8)} (h : Two P q st) (hk : Keeps FP st st' 1 j o) : Two P q st' := by
  have hl := h.len
  have hl' := hk.len
  refine ⟨hk.good, by omega, vix_same hk.len hk.vol h.na, vix_same hk.len hk.vol h.nb, fun h0 => ?_, fun h1 => ?_, fun i hi => ?_⟩
  · rw [(hk.vol 0 (by omega) h0).2]; exact h.la _
  · rw [(hk.vol 1 (by omega) h1).2]; exact h.lb _
  · rw [hk.txt 0 i (by omega) (by rw [h.la]; exact hi), if_neg (fun e => by omega)]
    exact h.txt i hi

/-- a write into 'b' leaves 'a' -/
theorem Two.write {P : List (List UInt8)} {q : Nat} {st : Sta} {t : List UInt8} {a : Int} (h : Two P q st) (h0 : (WoolVol.write FP st [98] a t).2 = 0) : Two P q (WoolVol.write FP st [98] a t).1 := by
  obtain ⟨k, j, _, _, hx, hk⟩ := write_step h0
  rw [h.nb] at hx
  cases hx
  exact h.keeps hk

theorem vins_two {va : Vo} (x : Vo) (ha : va.nm = [97]) (hb : x.nm = [98]) : vins x [va] = [va, x] := by
  have hp : vplace [98] [va] = 1 := by
    have hn : vix (gtB [98]) [va] = none := by
      rw [vix_none]
      intro y hy
      rw [List.mem_singleton] at hy
      subst hy
      unfold gtB
      rw [ha]
      rfl
    unfold vplace
    rw [hn]
    rfl
  show [va].take (vplace x.nm [va]) ++ _ :: [va].drop (vplace x.nm [va]) = _
  rw [hb, hp]
  rfl

/-- the clone of the only volume -/
theorem two_clone {S : List UInt8} {q : Nat} {st1 : Sta} {va : Vo} (g : WoolVol.Good FP st1) (hva : st1.v = [va]) (hnm : va.nm = [97]) (hbl : va.bl.length = q) (hd : ∀ i, i < q → txAt st1 0 i = (pcs S)[i]?) :
    (clone FP st1 [97] [98]).2 = 0 ∧ Two (pcs S) q (clone FP st1 [97] [98]).1 := by
  have hx : vix (nmB [97]) st1.v = some 0 := by rw [hva]; simp [vix, nmB, hnm]
  have hn : newE st1 [98] = 0 := by
    unfold newE
    rw [hva]
    have e1 : (!(nameB [98])) = false := by decide
    have e2 : [va].any (nmB [98]) = false := by simp [nmB, hnm]
    rw [e1, e2]
    simp
  have hva0 : st1.v[(0 : Nat)]! = va := by rw [hva]; rfl
  have hc : clone FP st1 [97] [98] = (⟨ret st1.b va.bl, [va, ⟨[98], va.bl⟩]⟩, 0) := by
    unfold clone
    rw [vfind_is g hx]
    simp only [hn, hva0]
    rw [if_neg (by simp), if_neg (by simp), hva, vins_two _ hnm rfl]
  have hg := clone_good (v := va) g (by rw [hva]; simp) hn
  rw [hva, vins_two _ hnm rfl] at hg
  rw [hc]
  refine ⟨rfl, hg, rfl, by simp [vix, nmB, hnm], by simp [vix, nmB, hnm], fun _ => hbl, fun _ => hbl, fun i hi => ?_⟩
  rw [← hd i hi]
  unfold txAt
  have e : blk ⟨ret st1.b va.bl, [va, ⟨[98], va.bl⟩]⟩ 0 i = blk st1 0 i := by
    unfold blk
    rw [hva0]
    rfl
  rw [e]
  show (if _ then tx (ret st1.b va.bl) _ else none) = _
  rw [tx_ret]

/-- the places that differ -/
theorem two_dif {P : List (List UInt8)} {q : Nat} {st : Sta} (h : Two P q st) (h0 : 0 < st.v.length) (h1 : 1 < st.v.length) : bothR st [97] [98] = (st.v[0].bl, st.v[1].bl, 0) ∧ difR st [97] [98] = (Go.Proofs.YtcbppfndlagodaaGreat.dif st.v[0].bl st.v[1].bl q, 0) := by
  have hA : blocks FP st [97] = (st.v[0].bl, 0) := by
    unfold blocks
    rw [vfind_is h.good h.na, if_neg (by simp)]
    show ((st.v[(0 : Nat)]!).bl, (0 : Int)) = _
    rw [getElem!_pos st.v 0 h0]
  have hB : blocks FP st [98] = (st.v[1].bl, 0) := by
    unfold blocks
    rw [vfind_is h.good h.nb, if_neg (by simp)]
    show ((st.v[(1 : Nat)]!).bl, (0 : Int)) = _
    rw [getElem!_pos st.v 1 h1]
  have hb : bothR st [97] [98] = (st.v[0].bl, st.v[1].bl, 0) := by
    unfold bothR
    rw [hA, hB]
    simp
  refine ⟨hb, ?_⟩
  unfold difR
  rw [hb]
  simp only
  rw [h.la h0, h.lb h1]
  simp

theorem mem_dif (a b : List Idn) (k i : Nat) : (i : Int) ∈ Go.Proofs.YtcbppfndlagodaaGreat.dif a b k ↔ i < k ∧ a[i]! ≠ b[i]! := by
  unfold Go.Proofs.YtcbppfndlagodaaGreat.dif
  rw [List.mem_map]
  constructor
  · rintro ⟨j, hj, e⟩
    have e2 : j = i := by omega
    subst e2
    rw [List.mem_filter, List.mem_range] at hj
    exact ⟨hj.1, by simpa using hj.2⟩
  · rintro ⟨h1, h2⟩
    exact ⟨i, by rw [List.mem_filter, List.mem_range]; exact ⟨h1, by simpa using h2⟩, rfl⟩

theorem dif_bounds (a b : List Idn) (k : Nat) : ∀ p ∈ Go.Proofs.YtcbppfndlagodaaGreat.dif a b k, 0 ≤ p ∧ p < (k : Int) := by
  intro p hp
  unfold Go.Proofs.YtcbppfndlagodaaGreat.dif at hp
  rw [List.mem_map] at hp
  obtain ⟨i, hi, rfl⟩ := hp
  rw [List.mem_filter, List.mem_range] at hi
  omega

/-- blocks of one identifier read alike -/
theorem alike {st : Sta} (h0 : 0 < st.v.length) (h1 : 1 < st.v.length) (i : Nat) (e : st.v[0].bl[i]! = st.v[1].bl[i]!) : txAt st 0 i = txAt st 1 i := by
  have : blk st 0 i = blk st 1 i := by
    unfold blk
    rw [getElem!_pos st.v 0 h0, getElem!_pos st.v 1 h1]
    exact e
  unfold txAt
  rw [this]

/-- copying every place of a list from 'a', all of which is written -/
theorem cpL_all {P : List (List UInt8)} {q : Nat} {st : Sta} (h : Two P q st) (hP : P.length = q) (h64 : ∀ t ∈ P, t.length ≤ 64) : ∀ (z : List Int) (cur : Sta), (∀ p ∈ z, 0 ≤ p ∧ p < (q : Int)) → Two P q cur →
    (cpL st 0 q [98] cur z).2 = 0 ∧ Two P q (cpL st 0 q [98] cur z).1 ∧ ∀ i, i < q → txAt (cpL st 0 q [98] cur z).1 1 i = if (i : Int) ∈ z then P[i]? else txAt cur 1 i
  | [], cur, _, hc => ⟨rfl, hc, fun i _ => by simp [cpL]⟩
  | p :: r, cur, hz, hc => by
    obtain ⟨hp0, hpq⟩ := hz p (by simp)
    obtain ⟨j, rfl⟩ := Int.eq_ofNat_of_zero_le hp0
    have hjq : j < q := by omega
    have hjP : j < P.length := by omega
    have hlen := hc.len
    have hst : txAt st 0 (Int.toNat (j : Int)) = some P[j] := by
      rw [Int.toNat_natCast, h.txt j hjq, List.getElem?_eq_getElem hjP]
    have hca : txAt cur 0 j = some P[j] := by rw [hc.txt j hjq, List.getElem?_eq_getElem hjP]
    have hw : (WoolVol.write FP cur [98] (j : Int) P[j]).2 = 0 :=
      write_has (kf := 0) hc.good hc.nb (by omega) (by rw [hc.lb]; exact hjq) (by omega) (by rw [hc.la]; exact hjq) (by omega) hca (h64 _ (List.getElem_mem hjP))
    have hs : cpStep st 0 [98] cur (j : Int) = WoolVol.write FP cur [98] (j : Int) P[j] := by
      unfold cpStep
      rw [hst]
    obtain ⟨k, j', ej, _, hx, hk⟩ := write_step hw
    have ej2 : j' = j := by omega
    subst ej2
    rw [hc.nb] at hx
    cases hx
    have hc2 := hc.keeps hk
    obtain ⟨i1, i2, i3⟩ := cpL_all h hP h64 r _ (fun p hp => hz p (by simp [hp])) hc2
    have e : cpL st 0 q [98] cur ((j' : Int) :: r) = cpL st 0 q [98] (WoolVol.write FP cur [98] (j' : Int) P[j']).1 r := by
      rw [cpL, if_neg (by omega), hs, if_neg (by simpa using hw)]
    rw [e]
    refine ⟨i1, i2, fun i hi => ?_⟩
    rw [i3 i hi, hk.txt 1 i (by omega) (by rw [hc.lb]; exact hi)]
    by_cases e1 : (i : Int) ∈ r
    · rw [if_pos e1, if_pos (by simp [e1])]
    · rw [if_neg e1]
      by_cases e2 : i = j'
      · subst e2
        rw [if_pos ⟨rfl, rfl⟩, if_pos (by simp), List.getElem?_eq_getElem hjP]
      · rw [if_neg (fun e => e2 e.2), if_neg]
        rw [List.mem_cons]
        rintro (e3 | e3)
        · omega
        · exact e1 e3

/-- behind the copying 'b' reads as 'a' -/
theorem two_copy {P : List (List UInt8)} {q : Nat} {st : Sta} (h : Two P q st) (hP : P.length = q) (h64 : ∀ t ∈ P, t.length ≤ 64) :
    (cpR st [97] [98] (difR st [97] [98]).1).2 = 0 ∧ Two P q (cpR st [97] [98] (difR st [97] [98]).1).1 ∧ ∀ i, i < q → txAt (cpR st [97] [98] (difR st [97] [98]).1).1 1 i = P[i]? := by
  have hlen := h.len
  have h0 : 0 < st.v.length := by omega
  have h1 : 1 < st.v.length := by omega
  obtain ⟨hb, hd⟩ := two_dif h h0 h1
  have hc : cpR st [97] [98] (difR st [97] [98]).1 = cpL st 0 q [98] st (Go.Proofs.YtcbppfndlagodaaGreat.dif st.v[0].bl st.v[1].bl q) := by
    unfold cpR
    rw [hb, hd, vfind_is h.good h.na]
    simp only
    rw [if_neg (by simp), h.la h0]
  rw [hc]
  obtain ⟨i1, i2, i3⟩ := cpL_all h hP h64 _ st (dif_bounds st.v[0].bl st.v[1].bl q) h
  refine ⟨i1, i2, fun i hi => ?_⟩
  rw [i3 i hi]
  by_cases e : (i : Int) ∈ Go.Proofs.YtcbppfndlagodaaGreat.dif st.v[0].bl st.v[1].bl q
  · rw [if_pos e]
  · rw [if_neg e, ← alike h0 h1 i, h.txt i hi]
    rw [mem_dif] at e
    apply Classical.byContradiction
    intro hne
    exact e ⟨hi, hne⟩

/-- the texts of a volume -/
def rdL (st : Sta) (k n : Nat) : List (List UInt8) := (List.range n).map fun i => (txAt st k i).getD []

theorem rdL_len (st : Sta) (k n : Nat) : (rdL st k n).length = n := by simp [rdL]
theorem rdL_succ (st : Sta) (k n : Nat) : rdL st k (n + 1) = rdL st k n ++ [(txAt st k n).getD []] := by
  unfold rdL
  rw [List.range_succ, List.map_append]
  rfl

theorem rdL_64 {st : Sta} (g : WoolVol.Good FP st) (k n : Nat) : ∀ t ∈ rdL st k n, t.length ≤ 64 := by
  intro t ht
  unfold rdL at ht
  rw [List.mem_map] at ht
  obtain ⟨i, _, rfl⟩ := ht
  cases e : txAt st k i with
  | none => simp
  | some t =>
    obtain ⟨x, hx, rfl⟩ := has_tx e
    exact (g.bag.ok x hx).1

theorem chkT_rd {st : Sta} (g : WoolVol.Good FP st) (k n : Nat) (h0 : n ≠ 0) (h32 : n ≤ 32) : chkT (rdL st k n) = 0 := by
  have h := rdL_64 g k n
  unfold chkT
  rw [rdL_len, if_neg h0, if_neg]
  rw [Bool.or_eq_true, not_or]
  refine ⟨by simpa using h32, ?_⟩
  rw [List.any_eq_true]
  rintro ⟨t, ht, hd⟩
  have := h t ht
  simp at hd
  omega

/-- what the comparison of the trees finds differs -/
theorem two_found {P : List (List UInt8)} {q : Nat} {st : Sta} (h : Two P q st) (h0 : q ≠ 0) (h32 : q ≤ 32) : cpE (rdL st 0 q) (rdL st 1 q) = 0 ∧ ∀ i ∈ (cpV (rdL st 0 q) (rdL st 1 q)).1, (difR st [97] [98]).1.contains (i : Int) = true := by
  have hE : cpE (rdL st 0 q) (rdL st 1 q) = 0 := by
    unfold cpE
    rw [chkT_rd h.good 0 q h0 h32, chkT_rd h.good 1 q h0 h32, rdL_len, rdL_len]
    simp
  refine ⟨hE, fun i hi => ?_⟩
  have hlen := h.len
  have hl0 : 0 < st.v.length := by omega
  have hl1 : 1 < st.v.length := by omega
  obtain ⟨_, hd⟩ := two_dif h hl0 hl1
  unfold cpV at hi
  rw [if_pos hE, rdL_len] at hi
  have hr := (WoolTree.cm_rise TH q (rdL st 0 q) (rdL st 1 q) 0 (by rw [rdL_len]; omega)).2 i hi
  have hne := WoolTree.cm_differ TH q (rdL st 0 q) (rdL st 1 q) 0 (by rw [rdL_len]; omega) (by rw [rdL_len]; exact h32) (by rw [rdL_len, rdL_len]) i hi
  rw [rdL_len] at hr
  have hiq : i < q := by omega
  rw [hd, List.contains_iff_mem, mem_dif]
  refine ⟨hiq, fun e => hne ?_⟩
  rw [Nat.sub_zero]
  unfold rdL
  rw [List.getElem?_map, List.getElem?_map, List.getElem?_range hiq]
  show some ((txAt st 0 i).getD []) = some ((txAt st 1 i).getD [])
  rw [alike hl0 hl1 i e]

theorem pcs_64 {S : List UInt8} {q : Nat} {st : Sta} (h : Two (pcs S) q st) (hq : (pcs S).length = q) : ∀ t ∈ pcs S, t.length ≤ 64 := by
  intro t ht
  obtain ⟨i, hi, rfl⟩ := List.getElem_of_mem ht
  have := h.txt i (by omega)
  rw [List.getElem?_eq_getElem hi] at this
  obtain ⟨x, hx, hxt⟩ := has_tx this
  rw [← hxt]
  exact (h.good.bag.ok x hx).1

theorem two_read {S : List UInt8} {q k : Nat} {st : Sta} (hS : S ≠ []) (hq : (pcs S).length = q) (ht : ∀ i, i < q → txAt st k i = (pcs S)[i]?) : ldd st k q = S := by
  have hfl := ldd_flat (st := st) (k := k) (P := pcs S) q (by omega) ht
  rw [← hq, List.take_length, pcs_join S hS] at hfl
  rw [← hq]
  exact hfl

end Go.Proofs.YtcbppfndlagodaaGreat

/-
  slices.Delete of one volume of a row that is known whole. Conditions: as each says.
-/
namespace Go.Proofs.YtcbppfndlagodaaGreat
open Go.RowKit
open Go.Proofs
open WoolBag
open WoolVol

/-- the cells of the empty volume -/
def zcV : List Value := [.string ⟨#[]⟩, .slice none 0 0]

theorem RowV.setCells : ∀ (news : List Value) {w : World} {g : Nat} {L : List Value} (s : Nat), RowV w g L → s + news.length ≤ L.length → RowV (w.setCells g s news) g (splice L s news)
  | [], w, g, L, s, h, hl => by
    show RowV w g _
    unfold splice
    simpa using h
  | v :: r, w, g, L, s, h, hl => by
    have hs : s < L.length := by simp at hl; omega
    have ih := RowV.setCells r (s + 1) (h.set s v) (by simp at hl ⊢; omega)
    rw [splice_cons hs] at ih
    exact ih

theorem grown_setC {w0 w : World} {g : Nat} (h : w0.grownBy w (some g)) (s : Nat) (v : Value) : w0.grownBy (w.setCell ⟨g, s, none⟩ v) (some g) := by
  have h2 := grown_set w g s v
  exact ⟨h.os, h.tape, h.output, Nat.le_trans h.size h2.size, fun k hk hne => (h2.block k (Nat.lt_of_lt_of_le hk h.size) hne).trans (h.block k hk hne)⟩
theorem grown_setCells : ∀ (news : List Value) {g : Nat} {w0 w : World} (s : Nat), w0.grownBy w (some g) → w0.grownBy (w.setCells g s news) (some g)
  | [], _, _, _, _, h => h
  | v :: r, _, _, _, s, h => grown_setCells r (s + 1) (grown_setC h s v)

/-- clear of one volume -/
theorem clearV_one {w : World} {g s c : Nat} {L : List Value} (h : RowV w g L) (hs : s + 2 ≤ L.length) (ty : TypeId) :
    (Builtin.clear_ #[25] ty #[.slice (some ⟨g, s, none⟩) 1 c]).run Tryz.prog w = .ok (.tuple #[]) (w.setRow g (splice L s zcV).toArray) := by
  have hst := run_storeCells_at Tryz.prog g s 60 zcV 0 L.toArray w h (by simp [zcV]; omega) (by intro u hu; simp [zcV] at hu; rcases hu with rfl | rfl <;> rfl)
  have hz : (Builtin.zeroCells (Value.agg #[.string ⟨#[]⟩, .slice none 0 0]).cells 1).toList = zcV := by kernel_rfl
  simp only [Nat.add_zero] at hst
  simp [Builtin.clear_, run_underlying Tryz.underlying25, hz, hst, splice]

/-- the row behind the two steps of a Delete -/
theorem eraseV_row (l : List VC) (k : Nat) (hk : k < l.length) (sp : List Value) :
    splice (splice (fl vcC l ++ sp) (k * 2) (fl vcC (l.drop (k + 1)))) ((l.length - 1) * 2) zcV = fl vcC (l.eraseIdx k) ++ (zcV ++ sp) := by
  have e1 : splice (fl vcC l ++ sp) (k * 2) (fl vcC (l.drop (k + 1))) = fl vcC (l.eraseIdx k) ++ ((fl vcC l).drop ((l.length - 1) * 2) ++ sp) := by
    unfold splice
    rw [List.take_append_of_le_length (by rw [vL_length]; omega), ← vL_take, vL_length, List.length_drop, List.drop_append_of_le_length (by rw [vL_length]; omega), List.eraseIdx_eq_take_drop_succ, vL_append, List.append_assoc,
      show k * 2 + (l.length - (k + 1)) * 2 = (l.length - 1) * 2 by omega]
  rw [e1]
  have e2 : (fl vcC (l.eraseIdx k)).length = (l.length - 1) * 2 := by rw [vL_length, List.length_eraseIdx_of_lt hk]
  have e3 : ((fl vcC l).drop ((l.length - 1) * 2)).length = 2 := by rw [List.length_drop, vL_length]; omega
  have e4 : zcV.length = 2 := rfl
  generalize (fl vcC l).drop ((l.length - 1) * 2) = D at e3
  unfold splice
  rw [← e2, List.take_left, e4, List.drop_append, List.drop_of_length_le (by omega), List.nil_append, show (fl vcC (l.eraseIdx k)).length + 2 - (fl vcC (l.eraseIdx k)).length = 2 by omega, List.drop_append, List.drop_of_length_le (by omega), e3, List.nil_append]
  rfl

end Go.Proofs.YtcbppfndlagodaaGreat

/-
  What vol's Drop returns. Conditions: a state that can be read.
-/
namespace Go.Proofs.YtcbppfndlagodaaGreat
open Go.RowKit
open Go.Proofs
open WoolBag
open WoolVol

theorem Rd.erase {w : World} {C : List VC} {l : List Vo} (h : Rd w C l) (k : Nat) : Rd w (C.eraseIdx k) (l.eraseIdx k) := by
  rw [List.eraseIdx_eq_take_drop_succ, List.eraseIdx_eq_take_drop_succ]
  exact (h.take k).app (h.drop (k + 1))

/-- what a volume taken from those of the call's own leaves -/
theorem del_stat {W w5 : World} {base g n cap : Nat} {vb : Value} {b : List Itm} {l : List Vo} {C : List VC} {k : Nat} {sp sp' : List Value} (hb : OItems W base vb b) (hC : RowV W g (fl vcC C ++ sp)) (hR : ORd W base C l) (hg : W.grownBy w5 (some g))
    (ho : RowV w5 g (fl vcC (C.eraseIdx k) ++ sp')) (hn : (C.eraseIdx k).length = n) (h1 : n ≤ cap) (h2 : cap ≤ maxLen) (h3 : n * 2 + sp'.length = cap * 2) : Stat w5 (.agg #[vb, .slice (some ⟨g, 0, none⟩) n cap]) ⟨b, l.eraseIdx k⟩ := by
  have hkp : ∀ {T n m : Nat} {v : Value} {L : List Value}, W.ownsRow base T m v n L → T ≠ 60 → w5.ownsRow base T m v n L := by
    intro T n m v L h hT
    exact World.ownsRow.kept h hg (.inr (own_apart h hC hT))
  have hov : OVC w5 0 (.slice (some ⟨g, 0, none⟩) n cap) (C.eraseIdx k) := by
    subst hn
    exact OVC.mk (Nat.zero_le _) ho h1 h2 h3
  exact ⟨_, _, rfl, (show OItems w5 base vb b from hkp hb itVol).items, ⟨_, hov.vcs, Rd.erase ⟨hR.len, hR.nm, fun i hi => (show OIds w5 base _ _ from hkp (hR.bl i hi) idVol).ids⟩ k⟩⟩

end Go.Proofs.YtcbppfndlagodaaGreat
