/-
  What the reference's Ends returns: where all chunks end; and the law CutSays, walked: for every text and all numbers the Go text returns true; nothing that was there turns. Conditions: a text that came in has at most 2^47 - 4096 bytes.
-/
import Derived.Test.YtidofplebkbbmaaRefCut
import Derived.Deep.AppendLies
namespace Go.Proofs.Ytidofplebkbbmaa
open Go.RowKit
open Go.Proofs

/-- a row that was not appended to is as it was -/
theorem Ints.far {w w' : World} {base g : Nat} {v : Value} {l : List Nat} (h : Ints w base v l) (hg : w.grownBy w' (some g)) (hne : ∀ k, v.ownBlock = some k → k ≠ g) : Ints w' base v l := by
  refine ⟨h.1, ?_⟩
  rcases h.2 with h | ⟨k, cap, cur, rfl, h2, h3, h4⟩
  · exact .inl h
  · refine .inr ⟨k, cap, cur, rfl, h2, ?_, h4⟩
    have hk : k < w.heap.size := by
      rcases Nat.lt_or_ge k w.heap.size with hlt | hge
      · exact hlt
      · rw [Array.getElem?_eq_none hge] at h3; cases h3
    rw [← h3]
    exact hg.block k hk (fun e => hne k rfl (Option.some.inj e))

theorem Ints.own_ge {w : World} {base : Nat} {v : Value} {l : List Nat} (h : Ints w base v l) : ∀ k, v.ownBlock = some k → base ≤ k ∧ k < w.heap.size := fun k hk => World.ownsRow.lt h k hk

theorem Ints.room {w : World} {base : Nat} {o : Option Addr} {n c : Nat} {l : List Nat} (h : Ints w base (.slice o n c) l) : n ≤ c ∧ c ≤ 9223372036854775807 := by
  rcases h.2 with ⟨he, h0⟩ | ⟨g, cap, cur, he, h1, h2, h3, h4, h5, h6⟩
  · simp only [Value.slice.injEq] at he
    omega
  · simp only [Value.slice.injEq] at he
    unfold maxLen at h4
    omega

def REndsRel (w w2 : World) (b1 c : Nat) (vy : Value) (ly : List Nat) (out i : Value) (wr : World) : Prop :=
  ∃ k g cap : Nat, k ≤ ly.length ∧ i = .int .i64 k ∧ out = .slice (some ⟨g, 0, none⟩) (k + 1) cap ∧ Ints wr w.heap.size out (c :: (ly.take k).map (c + ·)) ∧ (g = b1 ∨ w2.heap.size ≤ g) ∧
    Ints wr (b1 + 1) vy ly ∧ Up w wr ∧ w2.heap.size ≤ wr.heap.size

def REndsPost (s : ByteArray) (least most mask : Nat) (w : World) (e : Ending) (w' : World) : Prop :=
  ∃ v : Value, e = .returned v ∧ Ints w' w.heap.size v (ends least most mask s.data.toList) ∧ Up w w'

theorem take_next (ly : List Nat) (c k : Nat) (h : k < ly.length) : c :: (ly.take (k + 1)).map (c + ·) = (c :: (ly.take k).map (c + ·)) ++ [c + ly[k]] := by
  rw [List.take_succ_eq_append_getElem h, List.map_append, List.cons_append]; rfl

set_option maxRecDepth 100000 in
set_option maxHeartbeats 2000000 in
theorem refEnds_any (least most mask : Nat) (h1 : 1 ≤ least) (h2 : least ≤ most) (h3 : most ≤ 600) (hm : mask ≤ 65535) (n : Nat) : ∀ (s : ByteArray) (w : World), s.size ≤ n → s.size ≤ 600 →
    Calls Try.prog 31 #[.string s, .int .i64 (least : Int), .int .i64 (most : Int), .int .i64 (mask : Int)] w (REndsPost s least most mask w) := by
  induction n with
  | zero =>
    intro s w hn _
    have hs : s = ⟨#[]⟩ := by
      cases s with | mk d =>
        have : d.size = 0 := by have h : d.size ≤ 0 := hn; omega
        rw [Array.eq_empty_of_size_eq_zero this]
    subst hs
    go_enter Try.func31, Try.ntmps31
    go_wp2_with fail
    go_ret
    exact ⟨_, rfl, Ints.nil _ _, Up.refl w⟩
  | succ n ih =>
    intro s w hn h600
    by_cases he : s.data.toList = []
    · have hs : s = ⟨#[]⟩ := by
        cases s with | mk d => simp at he; subst he; rfl
      subst hs
      clear he
      go_enter Try.func31, Try.ntmps31
      go_wp2_with fail
      go_ret
      exact ⟨_, rfl, Ints.nil _ _, Up.refl w⟩
    · have he2 : s.toList.isEmpty = false := by
        rw [ByteArray.toList_eq]
        simpa using he
      obtain ⟨i0, hi, hz0, hz1, hz2⟩ := info_parts intInfo
      have HI := Lib.hid hi
      have HZ0 := Lib.hid hz0
      have HZ1 := Lib.hid hz1
      have HZ2 := Lib.hid hz2
      have hcons := ends_cons least most mask h1 h2 s.data.toList he
      have hpos := chunk_pos s.data.toList least most mask h1 h2 he
      have hle := chunk_le s.data.toList least most mask
      rw [len_ba] at hle
      have HIH := Lib.hid ih
      generalize hc : chunk s.data.toList least most mask = c at *
      have HC := Lib.hid hc
      have HCONS := Lib.hid hcons
      have hext := drop_ext s c
      have hes : (s.extract c s.size).size ≤ n := by rw [ByteArray.size_extract]; omega
      have hes2 : (s.extract c s.size).size ≤ 600 := by rw [ByteArray.size_extract]; omega
      have HEXT := Lib.hid hext
      clear hi hz0 hz1 hz2 he ih hc hcons hext
      go_enter Try.func31, Try.ntmps31
      go_wp2_with fail
      refine (refEnd_any s least most mask _ h600 h2 h3 hm).mono ?_
      rintro e w1 ⟨rfl, u1⟩
      rw [HC.out]
      go_wp2_with fail
      refine (HIH.out _ _ hes hes2).mono ?_
      rintro e w2 ⟨vy, rfl, hy, u2⟩
      rw [HEXT.out] at hy
      have hcons := HCONS.out
      generalize ends least most mask (s.data.toList.drop c) = ly at *
      obtain ⟨oy, cy, rfl⟩ := hy.shape
      have hsz1 := u1.size
      have hsz2 := u2.size
      have hll : ly.length ≤ 600 := by
        have := ends_length least most mask h1 h2 s.data.toList
        rw [hcons, List.length_cons, List.length_map, len_ba] at this
        omega
      have hs3 : (w1.alloc (.cells #[.int .i64 (c : Int)] 3)).heap.size = w1.heap.size + 1 := by simp
      rw [hs3] at hsz2 hy
      have hlit : Ints (w1.alloc (.cells #[.int .i64 (c : Int)] 3)) w.heap.size (.slice (some ⟨w1.heap.size, 0, none⟩) 1 1) [c] :=
        World.ownsRow_lit w1 _ 1 hsz1 (by unfold maxLen; omega) rfl
      have HLIT := Lib.hid (hlit.up u2)
      have HY := Lib.hid hy
      have HU := Lib.hid ((u1.trans (Up.alloc _ _)).trans u2)
      have HCONS2 := Lib.hid hcons
      clear hlit hy hcons u1 u2 hs3
      go_wp2_with fail
      go_loopw [9, 30] (fun out i wr => REndsRel w w2 w1.heap.size c (.slice oy ly.length cy) ly out i wr) (fun _ i _ => ly.length - (intOf i).toNat)
      case atStart => exact ⟨0, w1.heap.size, 1, by omega, rfl, rfl, HLIT.out, .inl rfl, HY.out, HU.out, Nat.le_refl _⟩
      case round =>
        obtain ⟨k, g, cap, hk, rfl, rfl, hout, hgb, hvy, hu, hsz⟩ := hrel
        have HOUT := Lib.hid hout
        have HVY := Lib.hid hvy
        have HUR := Lib.hid hu
        obtain ⟨hucap, hucap2⟩ := hout.room
        have hszw := hu.size
        by_cases hlt : k < ly.length
        · obtain ⟨gy, cy', hsy, hgy1, hgy2, hcy, hmy⟩ := hvy.block (by omega)
          simp only [Value.slice.injEq, true_and] at hsy
          obtain ⟨rfl, rfl⟩ := hsy
          unfold maxLen at hmy
          have hb : Ints w2 (w1.heap.size + 1) (.slice (some ⟨gy, 0, none⟩) ly.length cy) ly := HY.out
          have hgy3 : gy < w2.heap.size := (hb.own_ge gy rfl).2
          have e1 := hvy.cell k hlt
          have hlen : (c :: (ly.take k).map (c + ·)).length = k + 1 := by rw [List.length_cons, List.length_map, List.length_take]; omega
          have hout2 := hout
          rw [← hlen] at hout2
          have e2 : wr.cell? ⟨g, 0, none⟩ = some (.int .i64 (c : Int)) := hout2.cell 0 (by simp)
          have hnext := take_next ly c k hlt
          have hyk : c + ly[k] ≤ 600 := by
            have hmem : c + ly[k] ∈ ends least most mask s.data.toList := by
              rw [HCONS2.out]
              exact List.mem_cons_of_mem _ (List.mem_map.2 ⟨ly[k], List.getElem_mem hlt, rfl⟩)
            have := ((ends_sorted least most mask h1 h2 s.data.toList).2 _ hmem).2
            rw [len_ba] at this
            omega
          have hown0 : wr.ownsRow w.heap.size 3 1 (.slice (some ⟨g, 0, none⟩) (k + 1) cap) (k + 1) (intL (c :: (ly.take k).map (c + ·))) := by
            have := hout
            unfold Ints at this
            rwa [hlen] at this
          have HOWN := Lib.hid hown0
          generalize ly[k] = yk at *
          generalize hL : c :: (ly.take k).map (c + ·) = Lk at *
          have HNEXT := Lib.hid hnext
          have HLEN := Lib.hid hlen
          clear hout hvy hu hout2 hnext hlen hown0 hL hb
          go_wp2_with (at_builtin; refine wpList_append_lies _ rfl _ _ 33 rfl w.heap.size 3 i0 (.int .i64 0) 1 8 Try.underlying33 HI.out HZ0.out HZ1.out HZ2.out rfl (by decide) _ _ _ rfl (World.ownsRow.alloc HOWN.out _) ⟨wr.heap.size, 0, none⟩ 1 1 [.int .i64 ((yk : Int) + (c : Int))] rfl rfl (cell_one_new _ _ _) (one_mem' _ rfl) (by omega) (by unfold maxLen; omega) (by omega) (by simp; omega) _ rfl ?_)
          intro g' cap' w3 hown' hgrow hat hlt'
          have hints' : Ints w3 w.heap.size (.slice (some ⟨g', 0, none⟩) (k + 1 + 1) cap') (c :: (ly.take (k + 1)).map (c + ·)) := by
            unfold Ints
            rw [HNEXT.out, intL_snoc, List.length_append, HLEN.out, show ((c + yk : Nat) : Int) = (yk : Int) + (c : Int) by omega]
            exact hown'
          have hwr : (wr.alloc (.cells #[.int .i64 ((yk : Int) + (c : Int))] 3)).heap.size = wr.heap.size + 1 := by simp
          have hgrow2 : (wr.alloc (.cells #[.int .i64 ((yk : Int) + (c : Int))] 3)).grownBy w3 (some g) := hgrow
          have hUp : Up w w3 := grown_up' (HUR.out.trans (Up.alloc _ _)) (World.ownsRow.alloc HOWN.out _) hgrow
          have hfar : Ints w3 (w1.heap.size + 1) (.slice (some ⟨gy, 0, none⟩) ly.length cy) ly := by
            refine (HVY.out.up (Up.alloc _ _)).far hgrow2 ?_
            intro x hx
            have : x = gy := by simpa [Value.ownBlock] using hx.symm
            subst this
            omega
          have hg' : g' = w1.heap.size ∨ w2.heap.size ≤ g' := by
            rcases hat with h | h
            · have : g' = g := by simpa [Value.ownBlock] using h.symm
              subst this
              exact hgb
            · right
              omega
          have hsz3 : w2.heap.size ≤ w3.heap.size := by
            have := hgrow.size
            rw [hwr] at this
            omega
          have HI' := Lib.hid hints'
          have HUP := Lib.hid hUp
          have HFAR := Lib.hid hfar
          clear hown' hgrow hgrow2 hat hints' hUp hfar hwr
          go_wp2_with fail
          go_roundw
          case rel => exact ⟨k + 1, g', cap', by omega, by go_num, rfl, HI'.out, hg', HFAR.out, HUP.out, hsz3⟩
          case measure => simp only [intOf]; omega
        · obtain rfl : k = ly.length := by omega
          have d : decide (ly.length < ly.length) = false := by rw [decide_eq_false_iff_not]; omega
          have hfin := hout
          rw [List.take_length, ← HCONS2.out] at hfin
          have HFIN := Lib.hid hfin
          clear hout hvy hu hfin
          go_wp2_with fail
          go_ret
          exact ⟨_, rfl, HFIN.out, HUR.out⟩

set_option maxRecDepth 100000 in
set_option maxHeartbeats 1000000 in
theorem cutSays_walk (a0 : ByteArray) (a1 a2 a3 : Int) (w : World) (w0 : a0.size ≤ 140737488351232) (_w1 : (Lit.int .i64 a1).wf = true) (_w2 : (Lit.int .i64 a2).wf = true) (_w3 : (Lit.int .i64 a3).wf = true) :
    Calls Try.prog 5 #[.string a0, .int .i64 a1, .int .i64 a2, .int .i64 a3] w fun e w' => e = .returned (.bool true) ∧ Up w w' := by
  by_cases hs : a0.size ≤ 600
  · by_cases ha : 1 ≤ a1 ∧ a1 ≤ a2 ∧ a2 ≤ 600 ∧ 0 ≤ a3 ∧ a3 ≤ 65535
    · obtain ⟨L, rfl⟩ := Int.eq_ofNat_of_zero_le (show 0 ≤ a1 by omega)
      obtain ⟨M, rfl⟩ := Int.eq_ofNat_of_zero_le (show 0 ≤ a2 by omega)
      obtain ⟨K, rfl⟩ := Int.eq_ofNat_of_zero_le (show 0 ≤ a3 by omega)
      have h1 : 1 ≤ L := by omega
      have h2 : L ≤ M := by omega
      have h3 : M ≤ 600 := by omega
      have h4 : K ≤ 65535 := by omega
      clear ha
      go_enter Try.func5, Try.ntmps5
      go_wp2_with fail
      refine (ends_ok _ L M K _ hs h1 h2 h3 h4).mono ?_
      rintro e v1 ⟨vx, rfl, hx, u1⟩
      obtain ⟨ox, cx, rfl⟩ := hx.shape
      have HX := Lib.hid hx
      clear hx
      go_wp2_with fail
      refine (refEnds_any L M K h1 h2 h3 h4 600 _ _ hs hs).mono ?_
      rintro e v2 ⟨vy, rfl, hy, u2⟩
      have hlx := ends_length L M K h1 h2 a0.data.toList
      rw [len_ba] at hlx
      have HY := Lib.hid hy
      clear hy
      generalize ends L M K a0.data.toList = lx at *
      go_wp2_with fail
      refine (equal_yes _ _ _ _ lx _ (by omega) (HX.out.up u2) HY.out).mono ?_
      rintro e v3 ⟨rfl, u3⟩
      go_wp2_with fail
      go_ret
      exact ⟨rfl, (u1.trans u2).trans u3⟩
    · have HA := Lib.hid ha
      have hc := e_cases a1 a2 a3 ha
      clear ha
      rcases hc with c1 | ⟨c1, c2⟩ | ⟨c1, c2, c3⟩ | ⟨c1, c2, c3, c4⟩ | ⟨c1, c2, c3, c4, c5⟩
      all_goals
        go_enter Try.func5, Try.ntmps5
        go_wp2_with fail
        refine (ends_arg _ _ _ _ _ hs HA.out).mono ?_
        rintro e v1 ⟨rfl, rfl⟩
        go_wp2_with fail
        go_ret
        exact ⟨rfl, Up.refl _⟩
  · go_enter Try.func5, Try.ntmps5
    go_wp2_with fail
    refine (ends_long _ _ _ _ _ (by omega)).mono ?_
    rintro e v1 ⟨rfl, rfl⟩
    go_wp2_with fail
    go_ret
    exact ⟨rfl, Up.refl _⟩

end Go.Proofs.Ytidofplebkbbmaa
