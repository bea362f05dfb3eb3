/-
  The laws BoxBack, BoxOne and BoxRuns, walked: for every text (and int) the Go text returns true; nothing that was there turns. Conditions: a text that came in has at most 2^47 - 4096 bytes; one cell of the table deBruijn64tab (Tab).
-/
import Derived.Test.YtloiciinmdmdkaaDoorBox2
import Derived.Test.YtloiciinmdmdkaaDoorBoxR
import Derived.Test.YtloiciinmdmdkaaDoorWithin
namespace Go.Proofs.YtloiciinmdmdkaaDoor
open Go.RowKit
open Go.Proofs
open WoolLz WoolPack WoolBox

theorem rep_one (x : UInt8) : ∀ c : Nat, Lib.repeatL [x] c = List.replicate c x := by
  intro c
  induction c with
  | zero => rfl
  | succ c ih => simp [Lib.repeatL]; rw [ih, List.replicate_succ]

theorem rep_len (s : List UInt8) : ∀ c : Nat, (Lib.repeatL s c).length = s.length * c := by
  intro c
  induction c with
  | zero => rfl
  | succ c ih =>
    show (s ++ Lib.repeatL s c).length = _
    rw [List.length_append, ih, Nat.mul_succ]
    omega

theorem rep_pre (s : List UInt8) : ∀ c : Nat, Lib.repeatL s c <+: Lib.repeatL s (c + 1) := by
  intro c
  induction c with
  | zero => exact List.nil_prefix
  | succ c ih =>
    show s ++ Lib.repeatL s c <+: s ++ Lib.repeatL s (c + 1)
    exact (List.prefix_append_right_inj s).2 ih

theorem rep_per (s : List UInt8) (c j : Nat) (h1 : s.length ≤ j) (h2 : j < (Lib.repeatL s c).length) : (Lib.repeatL s c)[j]? = (Lib.repeatL s c)[j - s.length]? := by
  cases c with
  | zero => simp [Lib.repeatL] at h2
  | succ c =>
    have e : Lib.repeatL s (c + 1) = s ++ Lib.repeatL s c := rfl
    have hl : j - s.length < (Lib.repeatL s c).length := by rw [e, List.length_append] at h2; omega
    have h3 : (Lib.repeatL s (c + 1))[j - s.length]? = (Lib.repeatL s c)[j - s.length]? := by
      obtain ⟨r, hr⟩ := rep_pre s c
      rw [← hr, List.getElem?_append_left hl]
    rw [h3, e, List.getElem?_append_right h1]

theorem open_const : openV [0, 97] = ([97], 0) := by
  rw [← shut_one 97]
  exact open_shut [97] (by simp)

theorem openR_of {b s : List UInt8} {n : Nat} (h : openV b = (s, n)) : openR b = .tuple #[.string (bs s), .int .i64 (n : Int)] := by
  unfold openR
  rw [h]

theorem run60_ne : openV (0 :: List.replicate 60 97) = ([], 3) := by
  have hr : readV (0 :: List.replicate 60 97) = (List.replicate 60 97, 0) := by
    unfold readV
    rw [if_neg (by simp), if_pos (by simp)]
    rfl
  unfold openV
  rw [hr, if_neg (by simp), if_neg (by simp), if_neg ?_]
  show ¬ shut (List.replicate 60 97) = 0 :: List.replicate 60 97
  rw [shut_packed _ (by rw [shv_run60, List.length_replicate]; omega)]
  simp

theorem run60_len : (shut (List.replicate 60 97)).length = 4 := by
  rw [shut_packed _ (by rw [shv_run60, List.length_replicate]; omega), List.length_cons, shv_run60]

set_option maxRecDepth 100000 in
set_option maxHeartbeats 1000000 in
theorem boxBack_walk (a0 : ByteArray) (w : World) (w0 : a0.size ≤ 140737488351232) (hT : Tab w) :
    Calls Tryd.prog 3 #[.string a0] w fun e w' => e = .returned (.bool true) ∧ Up w w' := by
  obtain ⟨s, rfl⟩ : ∃ s, a0 = bs s := ⟨a0.data.toList, (bs_of a0).symm⟩
  have hsz := bs_size s
  rw [hsz] at w0
  have HA : Hid (shut [97] = [0, 97]) := shut_one 97
  have HRP := Lib.hid (rep_one 97 60)
  have hs60 := bs_size (shut (List.replicate 60 97))
  rw [run60_len] at hs60
  obtain ⟨R, hR⟩ : ∃ R, List.replicate 60 (97 : UInt8) = R := ⟨_, rfl⟩
  have HRL : Hid (R.length ≤ 600) := by show R.length ≤ 600; rw [← hR]; simp
  rw [hR] at hs60 HRP
  obtain ⟨Z, hZ⟩ : ∃ Z, shut R = Z := ⟨_, rfl⟩
  rw [hZ] at hs60
  have HZ := Lib.hid hZ
  clear hR hZ
  by_cases hl : s.length ≤ 600
  · have HL := Lib.hid hl
    have hol := shut_len s
    have HO := Lib.hid (openR_of (open_shut s hl))
    have hs2 := bs_size (shut s)
    obtain ⟨n, hn⟩ : ∃ n, s.length = n := ⟨_, rfl⟩
    obtain ⟨m, hm⟩ : ∃ m, (shut s).length = m := ⟨_, rfl⟩
    obtain ⟨Y, hY⟩ : ∃ Y, shut s = Y := ⟨_, rfl⟩
    rw [hm] at hs2 hol
    rw [hn] at hsz w0 hol
    rw [hY] at hs2 HO
    have HY := Lib.hid hY
    clear hn hm hY hl
    go_enter Tryd.func3, Tryd.ntmps3
    go_wp2_with fail
    refine (shut_ok [97] _ (by simp) hT).mono ?_
    rintro e w1 ⟨rfl, u1⟩
    rw [HA.out, show (bs [0, 97] : ByteArray) = ⟨#[0, 97]⟩ from rfl]
    go_wp2_with fail
    refine (Tryd.strings_Repeat ⟨#[97]⟩ 60 _ (by omega) (by show 1 * 60 ≤ _; omega)).mono ?_
    rintro e w2 ⟨rfl, u2⟩
    have U2 : Up w1 w2 := u2
    rw [show (⟨#[97]⟩ : ByteArray).data.toList = [97] from rfl, HRP.out, show (⟨R.toArray⟩ : ByteArray) = bs R from rfl]
    clear u2
    go_wp2_with fail
    refine (shut_ok R _ HRL.out ((hT.up u1).up U2)).mono ?_
    rintro e w3 ⟨rfl, u3⟩
    rw [HZ.out]
    go_wp2_with fail
    refine (shut_ok s _ HL.out (((hT.up u1).up U2).up u3)).mono ?_
    rintro e w4 ⟨rfl, u4⟩
    rw [HY.out]
    go_wp2_with fail
    refine (open_any Y _ ((((hT.up u1).up U2).up u3).up u4)).mono ?_
    rintro e w5 ⟨rfl, u5⟩
    rw [HO.out]
    have d1 : decide ((m : Int) ≤ (n : Int) + 1) = true := by rw [decide_eq_true_iff]; omega
    go_wp2_with fail
    go_ret
    exact ⟨rfl, u1.trans (U2.trans (u3.trans (u4.trans u5)))⟩
  · have HL : Hid (600 < s.length) := by show 600 < s.length; omega
    clear hl hsz w0
    go_enter Tryd.func3, Tryd.ntmps3
    go_wp2_with fail
    refine (shut_ok [97] _ (by simp) hT).mono ?_
    rintro e w1 ⟨rfl, u1⟩
    rw [HA.out, show (bs [0, 97] : ByteArray) = ⟨#[0, 97]⟩ from rfl]
    go_wp2_with fail
    refine (Tryd.strings_Repeat ⟨#[97]⟩ 60 _ (by omega) (by show 1 * 60 ≤ _; omega)).mono ?_
    rintro e w2 ⟨rfl, u2⟩
    have U2 : Up w1 w2 := u2
    rw [show (⟨#[97]⟩ : ByteArray).data.toList = [97] from rfl, HRP.out, show (⟨R.toArray⟩ : ByteArray) = bs R from rfl]
    clear u2
    go_wp2_with fail
    refine (shut_ok R _ HRL.out ((hT.up u1).up U2)).mono ?_
    rintro e w3 ⟨rfl, u3⟩
    rw [HZ.out]
    go_wp2_with fail
    refine (shut_long s _ HL.out).mono ?_
    rintro e w4 ⟨rfl, rfl⟩
    rw [show (bs [] : ByteArray) = ⟨#[]⟩ from rfl]
    go_wp2_with fail
    go_ret
    exact ⟨rfl, u1.trans (U2.trans u3)⟩

set_option maxRecDepth 100000 in
set_option maxHeartbeats 1000000 in
theorem boxOne_walk (a0 : ByteArray) (w : World) (_w0 : a0.size ≤ 140737488351232) (hT : Tab w) :
    Calls Tryd.prog 4 #[.string a0] w fun e w' => e = .returned (.bool true) ∧ Up w w' := by
  obtain ⟨b, rfl⟩ : ∃ s, a0 = bs s := ⟨a0.data.toList, (bs_of a0).symm⟩
  have HA := Lib.hid (openR_of open_const)
  have HN := Lib.hid (openR_of run60_ne)
  have HRP := Lib.hid (rep_one 97 60)
  have hadd := add_bs [0] (List.replicate 60 97) (by simp)
  rw [List.singleton_append, show (bs [0] : ByteArray) = ⟨#[0]⟩ from rfl] at hadd
  obtain ⟨R, hR⟩ : ∃ R, List.replicate 60 (97 : UInt8) = R := ⟨_, rfl⟩
  rw [hR] at HRP HN hadd
  clear hR
  by_cases he : (openV b).2 = 0
  · obtain ⟨h1, h2⟩ := open_ok b he
    have HO : Hid (openR b = .tuple #[.string (bs (openV b).1), .int .i64 0]) := openR_of (n := 0) (Prod.ext rfl he)
    obtain ⟨S, hS⟩ : ∃ S, (openV b).1 = S := ⟨_, rfl⟩
    rw [hS] at HO h1 h2
    have H1 := Lib.hid h1
    have H2 := Lib.hid h2
    clear he hS h1 h2
    go_enter Tryd.func4, Tryd.ntmps4
    go_wp2_with fail
    refine (open_any [0, 97] _ hT).mono ?_
    rintro e w1 ⟨rfl, u1⟩
    rw [HA.out, show (bs [97] : ByteArray) = ⟨#[97]⟩ from rfl]
    go_wp2_with fail
    refine (Tryd.strings_Repeat ⟨#[97]⟩ 60 _ (by omega) (by show 1 * 60 ≤ _; omega)).mono ?_
    rintro e w2 ⟨rfl, u2⟩
    have U2 : Up w1 w2 := u2
    rw [show (⟨#[97]⟩ : ByteArray).data.toList = [97] from rfl, HRP.out, show (⟨R.toArray⟩ : ByteArray) = bs R from rfl]
    clear u2
    go_wp2_with fail
    refine (open_any (0 :: R) _ ((hT.up u1).up U2)).mono ?_
    rintro e w3 ⟨rfl, u3⟩
    rw [HN.out]
    go_wp2_with fail
    refine (open_any b _ (((hT.up u1).up U2).up u3)).mono ?_
    rintro e w4 ⟨rfl, u4⟩
    rw [HO.out]
    go_wp2_with fail
    refine (shut_ok S _ H2.out ((((hT.up u1).up U2).up u3).up u4)).mono ?_
    rintro e w5 ⟨rfl, u5⟩
    rw [H1.out]
    go_wp2_with fail
    go_ret
    exact ⟨rfl, u1.trans (U2.trans (u3.trans (u4.trans u5)))⟩
  · have HO := Lib.hid (openR_of (open_err b he))
    clear he
    go_enter Tryd.func4, Tryd.ntmps4
    go_wp2_with fail
    refine (open_any [0, 97] _ hT).mono ?_
    rintro e w1 ⟨rfl, u1⟩
    rw [HA.out, show (bs [97] : ByteArray) = ⟨#[97]⟩ from rfl]
    go_wp2_with fail
    refine (Tryd.strings_Repeat ⟨#[97]⟩ 60 _ (by omega) (by show 1 * 60 ≤ _; omega)).mono ?_
    rintro e w2 ⟨rfl, u2⟩
    have U2 : Up w1 w2 := u2
    rw [show (⟨#[97]⟩ : ByteArray).data.toList = [97] from rfl, HRP.out, show (⟨R.toArray⟩ : ByteArray) = bs R from rfl]
    clear u2
    go_wp2_with fail
    refine (open_any (0 :: R) _ ((hT.up u1).up U2)).mono ?_
    rintro e w3 ⟨rfl, u3⟩
    rw [HN.out]
    go_wp2_with fail
    refine (open_any b _ (((hT.up u1).up U2).up u3)).mono ?_
    rintro e w4 ⟨rfl, u4⟩
    rw [HO.out, show (bs [] : ByteArray) = ⟨#[]⟩ from rfl]
    go_wp2_with fail
    go_ret
    exact ⟨rfl, u1.trans (U2.trans (u3.trans u4))⟩

set_option maxRecDepth 100000 in
set_option maxHeartbeats 1000000 in
theorem boxRuns_walk (a0 : ByteArray) (a1 : Int) (w : World) (w0 : a0.size ≤ 140737488351232) (_w1 : (Lit.int .i64 a1).wf = true) (hT : Tab w) :
    Calls Tryd.prog 5 #[.string a0, .int .i64 a1] w fun e w' => e = .returned (.bool true) ∧ Up w w' := by
  obtain ⟨s, rfl⟩ : ∃ s, a0 = bs s := ⟨a0.data.toList, (bs_of a0).symm⟩
  have hsz := bs_size s
  rw [hsz] at w0
  obtain ⟨m, hm⟩ : ∃ m, min s.length 8 = m := ⟨_, rfl⟩
  have hmin : ∀ (ts : Array TypeId) (t : TypeId) (W : World), (Builtin.min_ ts t #[.int .i64 (s.length : Int), .int .i64 8]).run Tryd.prog W = .ok (.int .i64 (m : Int)) W := by
    intro ts t W
    simp [Builtin.min_, Builtin.min2]
    omega
  have hto := to_bs s (m : Int) m rfl (by omega)
  obtain ⟨S, hS⟩ : ∃ S, s.take m = S := ⟨_, rfl⟩
  have hSl : S.length = m := by rw [← hS, List.length_take]; omega
  rw [hS] at hto
  have hsS := bs_size S
  rw [hSl] at hsS
  have hwl := within_lt a1 60 (by omega)
  obtain ⟨k, hk⟩ : ∃ k, within a1 60 = k := ⟨_, rfl⟩
  rw [hk] at hwl
  have HK := Lib.hid hk
  have hTl := rep_len S (k + 1)
  rw [hSl] at hTl
  have hm8 : m ≤ 8 := by omega
  have hb0 : m * (k + 1) ≤ 8 * 60 := Nat.mul_le_mul hm8 (by omega)
  have hb1 : m * 1 ≤ m * (k + 1) := Nat.mul_le_mul_left m (by omega)
  have hshort := shut_per (Lib.repeatL S (k + 1)) m hm8 (by omega) (fun h => List.eq_nil_of_length_eq_zero (by rw [hTl, h]; simp)) (by
    intro j h1 h2
    have := rep_per S (k + 1) j (by omega) h2
    rwa [hSl] at this)
  rw [hTl] at hshort
  have HTL : Hid ((Lib.repeatL S (k + 1)).length ≤ 600) := by show (Lib.repeatL S (k + 1)).length ≤ 600; omega
  have HBD : Hid ((bs S).data.toList = S) := bs_list S
  have HSZ : Hid ((bs S).size * (k + 1) ≤ 140737488355328) := by show (bs S).size * (k + 1) ≤ 140737488355328; rw [hsS]; omega
  have hs3 := bs_size (shut (Lib.repeatL S (k + 1)))
  obtain ⟨T, hTT⟩ : ∃ T, Lib.repeatL S (k + 1) = T := ⟨_, rfl⟩
  have HTT := Lib.hid hTT
  rw [hTT] at hshort HTL hs3
  obtain ⟨z, hz⟩ : ∃ z, (shut T).length = z := ⟨_, rfl⟩
  rw [hz] at hs3 hshort
  obtain ⟨Z, hZ⟩ : ∃ Z, shut T = Z := ⟨_, rfl⟩
  rw [hZ] at hs3
  have HZ := Lib.hid hZ
  have HN : Hid (shut [] = [0]) := shut_nil
  obtain ⟨N, hN⟩ : ∃ N, m * (k + 1) = N := ⟨_, rfl⟩
  obtain ⟨K, hKK⟩ : ∃ K, k + 1 = K := ⟨_, rfl⟩
  rw [hKK] at HSZ HTT hN
  have hNi : (m : Int) * (K : Int) = (N : Int) := by rw [← hN, Int.natCast_mul]
  have hKi : 1 + (k : Int) = (K : Int) := by omega
  have hK60 : K ≤ 60 := by omega
  rw [hKK, hN] at hshort hb0 hb1
  obtain ⟨n, hn⟩ : ∃ n, s.length = n := ⟨_, rfl⟩
  rw [hn] at hsz w0 hmin hm
  have HKI := Lib.hid hKi
  have d1 : decide ((z : Int) ≤ 1 + (m : Int) * 9 / 8 + 2 + 4 * (1 + (N : Int) / 64)) = true := by rw [decide_eq_true_iff]; omega
  clear hS hSl hk hTl hTT hz hZ hN hn hKi hKK
  go_enter Tryd.func5, Tryd.ntmps5
  go_wp2_with fail
  refine (shut_ok [] _ (by simp) hT).mono ?_
  rintro e w1 ⟨rfl, u1⟩
  rw [HN.out, show (bs [0] : ByteArray) = ⟨#[0]⟩ from rfl]
  go_wp2_with fail
  refine (within_any a1 60 _ (by omega) (by omega)).mono ?_
  rintro e w2 ⟨rfl, rfl⟩
  rw [show (60 : Int).toNat = 60 from rfl, HK.out]
  go_wp2_with fail
  rw [HKI.out]
  refine (Tryd.strings_Repeat (bs S) K _ (by omega) HSZ.out).mono ?_
  rintro e w2 ⟨rfl, u2⟩
  have U2 : Up w1 w2 := u2
  rw [HBD.out, HTT.out, show (⟨T.toArray⟩ : ByteArray) = bs T from rfl]
  clear u2
  go_wp2_with fail
  refine (shut_ok T _ HTL.out ((hT.up u1).up U2)).mono ?_
  rintro e w3 ⟨rfl, u3⟩
  rw [HZ.out]
  go_wp2_with fail
  go_ret
  exact ⟨rfl, u1.trans (U2.trans u3)⟩

end Go.Proofs.YtloiciinmdmdkaaDoor
