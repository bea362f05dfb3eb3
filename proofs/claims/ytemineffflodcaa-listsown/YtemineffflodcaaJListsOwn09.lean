/-
  The texts Math2, Prime, one behind the other; each says below what it holds and on what conditions.
-/
import Derived.Test.YtemineffflodcaaJListsOwn03
import Derived.Test.YtemineffflodcaaJListsOwn08

/-
  Plain mathematics: the least divisor, the next irreducible polynomial, how many there are. Nothing of any program.
-/
namespace WoolMath

/-- f is the least number from 2 on that divides m -/
def IsLeast (f m : Nat) : Prop := 2 ≤ f ∧ dvd f m ∧ ∀ d, 2 ≤ d → d < f → ¬ dvd d m

theorem least_unique {f g m : Nat} (h : IsLeast f m) (k : IsLeast g m) : f = g := by
  rcases Nat.lt_trichotomy f g with hlt | rfl | hlt
  · exact absurd h.2.1 (k.2.2 f h.1 hlt)
  · rfl
  · exact absurd k.2.1 (h.2.2 g k.1 hlt)

theorem least_is_prime {f m : Nat} (h : IsLeast f m) : Prime f := least_prime h.1 h.2.1 h.2.2

theorem least_iff {f m : Nat} (h : IsLeast f m) : f = m ↔ Prime m := by
  constructor
  · rintro rfl; exact least_is_prime h
  · intro hp
    rcases hp.2 f h.2.1 with e | e
    · have := h.1; omega
    · exact e

theorem dvd_le_num {d a : Nat} (h : dvd d a) (ha : a ≠ 0) : d ≤ a := by
  by_cases e : d = a
  · omega
  · have hl := dvd_lt h ha e
    have h1 := lt_log2 d
    have h2 := (top_of a ha).1
    have := Nat.pow_le_pow_right (n := 2) (by omega) (show d.log2 + 1 ≤ a.log2 by omega)
    omega

/-- nothing up to half the degree: it is its own least divisor -/
theorem least_self {m : Nat} (hm : 2 ≤ m) (h : ∀ d, 2 ≤ d → d < 2 ^ (m.log2 / 2 + 1) → ¬ dvd d m) : IsLeast m m := by
  have hp := half_enough hm h
  refine ⟨hm, dvd_refl m, fun d h1 h2 hd => ?_⟩
  rcases hp.2 d hd with e | e <;> omega

theorem least_exists {m : Nat} (hm : 2 ≤ m) : ∃ f, IsLeast f m ∧ f ≤ m := by
  have key : ∀ n, 2 ≤ n → dvd n m → ∃ f, IsLeast f m ∧ f ≤ n := by
    intro n
    induction n using Nat.strongRecOn with
    | ind n ih =>
      intro h2 hd
      by_cases hex : ∃ d, 2 ≤ d ∧ d < n ∧ dvd d m
      · obtain ⟨d, d1, d2, d3⟩ := hex
        obtain ⟨f, f1, f2⟩ := ih d d2 d1 d3
        exact ⟨f, f1, by omega⟩
      · exact ⟨n, ⟨h2, hd, fun d d1 d2 d3 => hex ⟨d, d1, d2, d3⟩⟩, Nat.le_refl n⟩
  exact key m hm (dvd_refl m)

/-- p is the least irreducible one from m on -/
def IsNext (p m : Nat) : Prop := Prime p ∧ m ≤ p ∧ ∀ q, m ≤ q → q < p → ¬ Prime q

theorem next_exists {m q : Nat} (hq : Prime q) (h : m ≤ q) : ∃ p, IsNext p m ∧ p ≤ q := by
  have key : ∀ n, m ≤ n → Prime n → ∃ p, IsNext p m ∧ p ≤ n := by
    intro n
    induction n using Nat.strongRecOn with
    | ind n ih =>
      intro h2 hd
      by_cases hex : ∃ d, m ≤ d ∧ d < n ∧ Prime d
      · obtain ⟨d, d1, d2, d3⟩ := hex
        obtain ⟨f, f1, f2⟩ := ih d d2 d1 d3
        exact ⟨f, f1, by omega⟩
      · exact ⟨n, ⟨hd, h2, fun d d1 d2 d3 => hex ⟨d, d1, d2, d3⟩⟩, Nat.le_refl n⟩
  exact key q h hq

theorem next_unique {p q m : Nat} (h : IsNext p m) (k : IsNext q m) : p = q := by
  rcases Nat.lt_trichotomy p q with hlt | rfl | hlt
  · exact absurd h.1 (k.2.2 p h.2.1 hlt)
  · rfl
  · exact absurd k.1 (h.2.2 q k.2.1 hlt)

theorem prime_of (m : Nat) (h : isP m = true) : Prime m := (isP_iff m).1 h

/-- the list of factors -/
def IsFactors (l : List Nat) (m : Nat) : Prop := (∀ p, p ∈ l → Prime p) ∧ prodL l = m ∧ l.Pairwise (· ≤ ·)

theorem factors_unique {l k : List Nat} {m : Nat} (h1 : IsFactors l m) (h2 : IsFactors k m) : l = k :=
  unique_sorted l k h1.1 h2.1 (h1.2.1.trans h2.2.1.symm) h1.2.2 h2.2.2

theorem prime_factors_one {p : Nat} (hp : Prime p) : IsFactors [p] p := by
  refine ⟨fun q hq => ?_, ?_, List.pairwise_singleton _ _⟩
  · rw [List.mem_singleton] at hq; subst hq; exact hp
  · rw [prodL_cons, prodL_nil, mul_one]

end WoolMath

/-
  What the functions of package prime return, at every argument: by the least divisor. Conditions: the arguments are ints.
-/
namespace Go.Proofs.Ytemineffflodcaa
open Go.RowKit
open Go.Proofs

/-- what leastFactor hands back -/
def LeastPost (m : Nat) (w : World) (e : Ending) (w' : World) : Prop :=
  ∃ f : Nat, WoolMath.IsLeast f m ∧ f ≤ m ∧ e = .returned (.int .i64 (f : Int)) ∧ Up w w'

def LeastRel (m from_ : Nat) (w : World) (d : Value) (wr : World) : Prop :=
  ∃ D : Nat, from_ ≤ D ∧ D ≤ 2147483647 ∧ (∀ e, 2 ≤ e → e < D → ¬ WoolMath.dvd e m) ∧ d = .int .i64 D ∧ Up w wr

set_option maxRecDepth 100000 in
set_option maxHeartbeats 400000 in
theorem leastFactor_any (M F : Nat) (w : World) (h1 : 2 ≤ M) (h2 : M ≤ 2147483647) (h3 : 2 ≤ F) (h4 : F ≤ 2147483647) (hF : ∀ d, 2 ≤ d → d < F → ¬ WoolMath.dvd d M) :
    Calls Try.prog 28 #[.int .i64 (M : Int), .int .i64 (F : Int)] w (LeastPost M w) := by
  have HF := Lib.hid hF
  clear hF
  have hbl := WoolMath.blen_pos M (by omega)
  have hl : M.log2 ≤ 30 := by
    have := (Nat.log2_lt (show M ≠ 0 by omega)).2 (show M < 2 ^ 31 by omega)
    omega
  have HBL := Lib.hid hbl
  clear hbl
  have hp : 2 ^ (M.log2 / 2 + 1) ≤ 65536 := Nat.pow_le_pow_right (n := 2) (j := 16) (by omega) (by omega)
  go_enter Try.func28, Try.ntmps28
  go_wp2_with fail
  refine (degN M _ h2).mono ?_
  rintro e w' ⟨rfl, rfl⟩
  rw [HBL.out, show ((M.log2 + 1 : Nat) : Int) - 1 = (M.log2 : Int) by omega]
  have hs := WoolMath.least_self (m := M) h1
  have HS := Lib.hid hs
  clear hs
  generalize M.log2 = L at *
  have hpw : wrap64 (2 ^ (L / 2 + 1)) = ((2 ^ (L / 2 + 1) : Nat) : Int) := by
    rw [pow_cast]
    generalize 2 ^ (L / 2 + 1) = z at *
    unfold wrap64
    omega
  generalize 2 ^ (L / 2 + 1) = E at *
  go_wp2_with fail
  rw [hpw]
  clear hpw
  go_loopw [8] (fun d wr => LeastRel M F w d wr) (fun d _ => E - (intOf d).toNat)
  case atStart => exact ⟨F, Nat.le_refl _, h4, HF.out, rfl, Up.refl w⟩
  case round =>
    obtain ⟨D, hD1, hD2, hno, rfl, hu⟩ := hrel
    have HNO := Lib.hid hno
    have HU := Lib.hid hu
    clear hno hu
    by_cases hlt : D < E
    · by_cases hr : WoolMath.pmod M D = 0
      · have hls : WoolMath.IsLeast D M := ⟨by omega, (WoolMath.dvd_iff _ _ (by omega)).2 hr, HNO.out⟩
        have HLS := Lib.hid hls
        have HR := Lib.hid hr
        have hle := WoolMath.dvd_le_num hls.2.1 (by omega)
        clear hr hls
        go_wp2_with fail
        refine (divN M D _ h2 (by omega) (by omega)).mono ?_
        rintro e w2 ⟨rfl, u2⟩
        rw [HR.out]
        go_wp2_with fail
        go_ret
        exact ⟨D, HLS.out, hle, rfl, HU.out.trans u2⟩
      · have hz : ((WoolMath.pmod M D : Int) == 0) = false := by rw [beq_eq_false_iff_ne]; omega
        have hnext : ∀ e, 2 ≤ e → e < D + 1 → ¬ WoolMath.dvd e M := by
          intro e e1 e2 e3
          by_cases he : e = D
          · subst he; exact hr ((WoolMath.dvd_iff _ _ (by omega)).1 e3)
          · exact HNO.out e e1 (by omega) e3
        have HN := Lib.hid hnext
        clear hr hnext
        go_wp2_with fail
        refine (divN M D _ h2 (by omega) (by omega)).mono ?_
        rintro e w2 ⟨rfl, u2⟩
        go_wp2_with fail
        go_roundw
        case rel => exact ⟨D + 1, by omega, by omega, HN.out, by go_num, HU.out.trans u2⟩
        case measure => simp [intOf]; omega
    · have hls := HS.out (fun d d1 d2 => HNO.out d d1 (by omega))
      have HLS := Lib.hid hls
      have dd : decide (D < E) = false := by rw [decide_eq_false_iff_not]; omega
      clear hls
      go_wp2_with fail
      go_ret
      exact ⟨M, HLS.out, Nat.le_refl _, rfl, HU.out⟩

/-! ytemineffflodcaa# irreducible, Is, Next -/

def NextRel (m top : Nat) (w : World) (d : Value) (wr : World) : Prop :=
  ∃ D : Nat, m ≤ D ∧ D ≤ top ∧ (∀ q, m ≤ q → q < D → ¬ WoolMath.Prime q) ∧ d = .int .i64 D ∧ Up w wr

end Go.Proofs.Ytemineffflodcaa
