/-
  Trees of prints, plainly: levels (ab, it), the root (rt), proofs (pf), what a proof shows (vf), and the root by two halves. Conditions: as each says.
-/
namespace WoolTree

/-- a number in four bytes -/
def b4 (n : Nat) : List UInt8 := [UInt8.ofNat (n / 16777216), UInt8.ofNat (n / 65536), UInt8.ofNat (n / 256), UInt8.ofNat n]
/-- what a leaf's hash is said of -/
def lf (t : List UInt8) : List UInt8 := 108 :: t
/-- what a pair's hash is said of -/
def pr (a b : Nat) : List UInt8 := 110 :: (b4 a ++ b4 b)

theorem b4_length (n : Nat) : (b4 n).length = 4 := rfl
theorem pr_length (a b : Nat) : (pr a b).length = 9 := rfl

theorem b4_inj {a b : Nat} (ha : a < 4294967296) (hb : b < 4294967296) (h : b4 a = b4 b) : a = b := by
  unfold b4 at h
  simp only [List.cons.injEq, and_true] at h
  obtain ⟨h1, h2, h3, h4⟩ := h
  have e : ∀ x y : Nat, UInt8.ofNat x = UInt8.ofNat y → x % 256 = y % 256 := fun x y h => by
    have := congrArg UInt8.toNat h
    simpa using this
  have := e _ _ h1
  have := e _ _ h2
  have := e _ _ h3
  have := e _ _ h4
  omega

theorem pr_inj {a b c d : Nat} (ha : a < 4294967296) (hb : b < 4294967296) (hc : c < 4294967296) (hd : d < 4294967296) (h : pr a b = pr c d) : a = c ∧ b = d := by
  unfold pr at h
  have h := (List.cons.inj h).2
  have := List.append_inj h rfl
  exact ⟨b4_inj ha hc this.1, b4_inj hb hd this.2⟩

theorem lf_inj {s t : List UInt8} (h : lf s = lf t) : s = t := (List.cons.inj h).2

theorem lf_ne_pr (s : List UInt8) (a b : Nat) : lf s ≠ pr a b := fun h => by
  have := (List.cons.inj h).1
  revert this
  decide

section
variable (H : List UInt8 → Nat)

/-- the hash of a pair -/
def hp (a b : Nat) : Nat := H (pr a b)

/-- the level above -/
def ab : List Nat → List Nat
  | x :: y :: r => hp H x y :: ab r
  | [x] => [x]
  | [] => []

theorem ab_one (x : Nat) : ab H [x] = [x] := rfl
theorem ab_two (x y : Nat) (r : List Nat) : ab H (x :: y :: r) = hp H x y :: ab H r := rfl

theorem ab_length : ∀ l : List Nat, (ab H l).length = (l.length + 1) / 2
  | [] => rfl
  | [x] => by simp [ab_one]
  | x :: y :: r => by
    rw [ab_two, List.length_cons, ab_length r, List.length_cons, List.length_cons]; omega

theorem ab_append : ∀ (a b : List Nat), a.length % 2 = 0 → ab H (a ++ b) = ab H a ++ ab H b
  | [], b, _ => rfl
  | [x], b, h => by simp at h
  | x :: y :: r, b, h => by
    rw [List.cons_append, List.cons_append, ab_two, ab_two, List.cons_append, ab_append r b (by simp only [List.length_cons] at h; omega)]

/-- k levels above -/
def it : Nat → List Nat → List Nat
  | 0, l => l
  | k + 1, l => it k (ab H l)

theorem it_one : ∀ (k : Nat) (x : Nat), it H k [x] = [x]
  | 0, _ => rfl
  | k + 1, x => it_one k x

theorem it_succ : ∀ (k : Nat) (l : List Nat), it H (k + 1) l = ab H (it H k l)
  | 0, _ => rfl
  | k + 1, l => it_succ k (ab H l)

theorem it_append : ∀ (k : Nat) (a b : List Nat), a.length % 2 ^ k = 0 → it H k (a ++ b) = it H k a ++ it H k b
  | 0, a, b, _ => rfl
  | k + 1, a, b, h => by
    have h1 : a.length % 2 = 0 := by
      rw [Nat.pow_succ] at h
      have := Nat.mod_mul_left_mod a.length (2 ^ k) 2
      omega
    have h2 : (ab H a).length % 2 ^ k = 0 := by
      rw [ab_length]
      obtain ⟨q, hq⟩ : ∃ q, a.length = 2 ^ (k + 1) * q := ⟨_, (Nat.mul_div_cancel' (Nat.dvd_of_mod_eq_zero h)).symm⟩
      rw [hq, Nat.pow_succ, show (2 ^ k * 2 * q + 1) / 2 = 2 ^ k * q by rw [show 2 ^ k * 2 * q = 2 * (2 ^ k * q) by rw [Nat.mul_right_comm, Nat.mul_comm]]; omega]
      exact Nat.mul_mod_right _ _
    rw [it, ab_append H a b h1, it_append k _ _ h2]
    rfl

/-- the root, k levels above -/
def rt (k : Nat) (l : List Nat) : Nat := (it H k l).headD 0

theorem it_len : ∀ (k : Nat) (l : List Nat), 0 < l.length → l.length ≤ 2 ^ k → (it H k l).length = 1
  | 0, l, h0, h1 => by rw [it]; simp at h1; omega
  | k + 1, l, h0, h1 => by
    rw [it]
    have := ab_length H l
    rw [Nat.pow_succ] at h1
    exact it_len k (ab H l) (by omega) (by omega)

theorem it_root (k : Nat) (l : List Nat) (h0 : 0 < l.length) (h1 : l.length ≤ 2 ^ k) : it H k l = [rt H k l] := by
  have := it_len H k l h0 h1
  unfold rt
  match it H k l, this with
  | [x], _ => rfl

theorem rt_more (k : Nat) (l : List Nat) (h0 : 0 < l.length) (h1 : l.length ≤ 2 ^ k) : rt H (k + 1) l = rt H k l := by
  have := it_root H k l h0 h1
  rw [rt, it_succ, this, ab_one]
  rfl

theorem rt_le (k l j) (h0 : 0 < (l : List Nat).length) (h1 : l.length ≤ 2 ^ k) : rt H (k + j) l = rt H k l := by
  induction j with
  | zero => rfl
  | succ j ih =>
    rw [← ih]
    exact rt_more H (k + j) l h0 (Nat.le_trans h1 (Nat.pow_le_pow_right (by omega) (by omega)))

theorem rt_eq (j k : Nat) (l : List Nat) (h0 : 0 < l.length) (hj : l.length ≤ 2 ^ j) (hk : l.length ≤ 2 ^ k) : rt H j l = rt H k l := by
  rcases Nat.le_total j k with h | h
  · rw [← rt_le H j l (k - j) h0 hj, Nat.add_sub_cancel' h]
  · rw [← rt_le H k l (j - k) h0 hk, Nat.add_sub_cancel' h]

theorem rt_one (k x : Nat) : rt H k [x] = x := by rw [rt, it_one]; rfl

theorem rt_halves (k : Nat) (a b : List Nat) (ha : a.length = 2 ^ k) (h0 : 0 < b.length) (hb : b.length ≤ 2 ^ k) :
    rt H (k + 1) (a ++ b) = hp H (rt H k a) (rt H k b) := by
  have hpos : 0 < 2 ^ k := Nat.pow_pos (by omega)
  rw [rt, it_succ, it_append H k a b (by rw [ha, Nat.mod_self]), it_root H k a (by omega) (by omega), it_root H k b h0 hb]
  rfl

/-- the greatest power of two below a number -/
def spn (n : Nat) : Nat := 2 ^ (n - 1).log2

theorem spn_lt (n : Nat) (h : 2 ≤ n) : spn n < n := by
  have := Nat.log2_self_le (n := n - 1) (by omega)
  unfold spn
  omega

theorem spn_pos (n : Nat) : 0 < spn n := Nat.pow_pos (by omega)

theorem spn_two (n : Nat) (h : 2 ≤ n) : n ≤ 2 * spn n := by
  have := Nat.lt_log2_self (n := n - 1)
  unfold spn
  rw [Nat.pow_succ] at this
  omega

theorem spn_unique (n k : Nat) (h : 2 ≤ n) (h1 : 2 ^ k < n) (h2 : n ≤ 2 * 2 ^ k) : spn n = 2 ^ k := by
  unfold spn
  have : (n - 1).log2 = k := (Nat.log2_eq_iff (by omega)).2 ⟨by omega, by rw [Nat.pow_succ]; omega⟩
  rw [this]

/-- the root of a list of at most 32 hashes -/
def root (l : List Nat) : Nat := rt H 5 l

theorem root_one (x : Nat) : root H [x] = x := rt_one H 5 x

theorem root_of (k : Nat) (l : List Nat) (h0 : 0 < l.length) (h : l.length ≤ 32) (hk : l.length ≤ 2 ^ k) : rt H k l = root H l := rt_eq H k 5 l h0 hk h

theorem root_halves (l : List Nat) (h0 : 2 ≤ l.length) (h1 : l.length ≤ 32) : root H l = hp H (root H (l.take (spn l.length))) (root H (l.drop (spn l.length))) := by
  have s1 := spn_lt l.length h0
  have s2 := spn_two l.length h0
  have s0 := spn_pos l.length
  have ha : (l.take (spn l.length)).length = 2 ^ (l.length - 1).log2 := by rw [List.length_take, Nat.min_eq_left (by omega)]; rfl
  have hbl : (l.drop (spn l.length)).length = l.length - spn l.length := List.length_drop
  have hk : l.length ≤ 2 ^ ((l.length - 1).log2 + 1) := by rw [Nat.pow_succ, Nat.mul_comm]; exact s2
  have hs : spn l.length = 2 ^ (l.length - 1).log2 := rfl
  have := rt_halves H (l.length - 1).log2 (l.take (spn l.length)) (l.drop (spn l.length)) ha (by omega) (by omega)
  rw [List.take_append_drop] at this
  rw [← root_of H _ l (by omega) h1 hk, this, root_of H _ (l.take _) (by omega) (by omega) (by omega), root_of H _ (l.drop _) (by omega) (by omega) (by omega)]

/-! ytabhalajelbfoaa# proofs -/

/-- the place beside -/
def bes (i : Nat) : Nat := if i % 2 = 0 then i + 1 else i - 1

/-- a proof's steps: on the left?, hash -/
def pf : Nat → List Nat → Nat → List (Bool × Nat)
  | 0, _, _ => []
  | k + 1, l, i => (if bes i < l.length then [(i % 2 == 1, l.getD (bes i) 0)] else []) ++ pf k (ab H l) (i / 2)

theorem pf_more : ∀ (k : Nat) (l : List Nat) (i : Nat), i < l.length → l.length ≤ 2 ^ k → pf H (k + 1) l i = pf H k l i
  | 0, l, i, h0, h1 => by
    simp at h1
    have : ¬ bes i < l.length := by unfold bes; split <;> omega
    simp only [pf, if_neg this, List.nil_append]
  | k + 1, l, i, h0, h1 => by
    rw [pf]
    have := ab_length H l
    rw [Nat.pow_succ] at h1
    rw [pf_more k (ab H l) (i / 2) (by omega) (by omega)]
    conv => rhs; rw [pf]

theorem pf_le (k l i j) (h0 : i < (l : List Nat).length) (h1 : l.length ≤ 2 ^ k) : pf H (k + j) l i = pf H k l i := by
  induction j with
  | zero => rfl
  | succ j ih =>
    rw [← ih]
    exact pf_more H (k + j) l i h0 (Nat.le_trans h1 (Nat.pow_le_pow_right (by omega) (by omega)))

theorem pf_eq (j k : Nat) (l : List Nat) (i : Nat) (h0 : i < l.length) (hj : l.length ≤ 2 ^ j) (hk : l.length ≤ 2 ^ k) : pf H j l i = pf H k l i := by
  rcases Nat.le_total j k with h | h
  · rw [← pf_le H j l i (k - j) h0 hj, Nat.add_sub_cancel' h]
  · rw [← pf_le H k l i (j - k) h0 hk, Nat.add_sub_cancel' h]

theorem pf_one (k x : Nat) : pf H k [x] 0 = [] := by
  rw [← pf_eq H 0 k [x] 0 (by simp) (by simp) (show 1 ≤ 2 ^ k from Nat.pow_pos (by omega))]
  rfl

theorem getD_left (a b : List Nat) (i : Nat) (h : i < a.length) : (a ++ b).getD i 0 = a.getD i 0 := by
  simp [List.getD, List.getElem?_append_left h]

theorem getD_right (a b : List Nat) (i : Nat) (h : a.length ≤ i) : (a ++ b).getD i 0 = b.getD (i - a.length) 0 := by
  simp [List.getD, List.getElem?_append_right h]

theorem pf_halves : ∀ (k : Nat) (a b : List Nat) (i : Nat), a.length = 2 ^ k → 0 < b.length → b.length ≤ 2 ^ k → i < a.length + b.length →
    pf H (k + 1) (a ++ b) i = if i < a.length then pf H k a i ++ [(false, rt H k b)] else pf H k b (i - a.length) ++ [(true, rt H k a)]
  | 0, [x], [y], i, _, _, _, hi => by
    have : i = 0 ∨ i = 1 := by simp at hi; omega
    rcases this with rfl | rfl <;> rfl
  | k + 1, a, b, i, ha, h0, hb, hi => by
    have la := ab_length H a
    have lb := ab_length H b
    rw [Nat.pow_succ] at ha hb
    rw [pf, ab_append H a b (by omega), pf_halves k (ab H a) (ab H b) (i / 2) (by omega) (by omega) (by omega) (by omega), List.length_append]
    by_cases h : i < a.length
    · have hb1 : bes i < a.length := by unfold bes; split <;> omega
      rw [if_pos (by omega), if_pos (by omega), if_pos h, pf, if_pos hb1, getD_left a b _ hb1, List.append_assoc]
      rfl
    · have hb1 : bes i = a.length + bes (i - a.length) := by unfold bes; split <;> split <;> omega
      rw [if_neg (show ¬ i / 2 < (ab H a).length by omega), if_neg h, pf, show (i - a.length) / 2 = i / 2 - (ab H a).length by omega, hb1, getD_right a b _ (by omega), Nat.add_sub_cancel_left, show ((i - a.length) % 2 == 1) = (i % 2 == 1) by rw [show (i - a.length) % 2 = i % 2 by omega], List.append_assoc]
      by_cases h2 : bes (i - a.length) < b.length
      · rw [if_pos (by omega), if_pos h2]; rfl
      · rw [if_neg (by omega), if_neg h2]; rfl

/-- the proof of a place in a list of at most 32 hashes -/
def prf (l : List Nat) (i : Nat) : List (Bool × Nat) := pf H 5 l i

theorem prf_halves (l : List Nat) (i : Nat) (h0 : 2 ≤ l.length) (h1 : l.length ≤ 32) (hi : i < l.length) :
    prf H l i = if i < spn l.length then prf H (l.take (spn l.length)) i ++ [(false, root H (l.drop (spn l.length)))] else prf H (l.drop (spn l.length)) (i - spn l.length) ++ [(true, root H (l.take (spn l.length)))] := by
  have s1 := spn_lt l.length h0
  have s2 := spn_two l.length h0
  have s0 := spn_pos l.length
  have ha0 : (l.take (spn l.length)).length = spn l.length := by rw [List.length_take, Nat.min_eq_left (by omega)]
  have ha : (l.take (spn l.length)).length = 2 ^ (l.length - 1).log2 := ha0
  have hbl : (l.drop (spn l.length)).length = l.length - spn l.length := List.length_drop
  have hk : l.length ≤ 2 ^ ((l.length - 1).log2 + 1) := by rw [Nat.pow_succ, Nat.mul_comm]; exact s2
  have hs : spn l.length = 2 ^ (l.length - 1).log2 := rfl
  have := pf_halves H (l.length - 1).log2 (l.take (spn l.length)) (l.drop (spn l.length)) i ha (by omega) (by omega) (by omega)
  rw [List.take_append_drop, ha0] at this
  rw [show prf H l i = pf H ((l.length - 1).log2 + 1) l i from pf_eq H _ _ l i hi h1 hk, this, root_of H _ (l.take _) (by omega) (by omega) (by omega), root_of H _ (l.drop _) (by omega) (by omega) (by omega)]
  by_cases h : i < spn l.length
  · rw [if_pos h, if_pos h, show prf H (l.take (spn l.length)) i = pf H (l.length - 1).log2 (l.take (spn l.length)) i from pf_eq H _ _ _ i (by omega) (by omega) (by omega)]
  · rw [if_neg h, if_neg h, show prf H (l.drop (spn l.length)) (i - spn l.length) = pf H (l.length - 1).log2 (l.drop (spn l.length)) (i - spn l.length) from pf_eq H _ _ _ _ (by omega) (by omega) (by omega)]

/-! ytabhalajelbfoaa# what a proof shows -/

/-- can a step be that of the hash at i? -/
def fit (s : Bool × Int) (i : Nat) : Bool := (s.1 == (i % 2 == 1)) && (decide (0 ≤ s.2) && decide (s.2 ≤ 2147483647))
/-- the hash of the pair of a hash and a step's -/
def clm (x : Nat) (s : Bool × Int) : Nat := if s.1 then hp H s.2.toNat x else hp H x s.2.toNat

def vf : Nat → Nat → Nat → Nat → List (Bool × Int) → Int → Bool
  | 0, _, _, x, p, r => p.isEmpty && ((x : Int) == r)
  | k + 1, n, i, x, p, r => if bes i < n then (match p with
      | [] => false
      | s :: q => fit s i && vf k ((n + 1) / 2) (i / 2) (clm H x s) q r) else vf k ((n + 1) / 2) (i / 2) x p r

theorem vf_one (k x : Nat) (p : List (Bool × Int)) (r : Int) : vf H k 1 0 x p r = (p.isEmpty && ((x : Int) == r)) := by
  induction k with
  | zero => rfl
  | succ k ih => rw [show vf H (k + 1) 1 0 x p r = vf H k 1 0 x p r from rfl]; exact ih

theorem vf_no (k n i x : Nat) (p : List (Bool × Int)) (r : Int) (h : ¬ bes i < n) : vf H (k + 1) n i x p r = vf H k ((n + 1) / 2) (i / 2) x p r := if_neg h
theorem vf_nil (k n i x : Nat) (r : Int) (h : bes i < n) : vf H (k + 1) n i x [] r = false := if_pos h
theorem vf_cons (k n i x : Nat) (s : Bool × Int) (q : List (Bool × Int)) (r : Int) (h : bes i < n) : vf H (k + 1) n i x (s :: q) r = (fit s i && vf H k ((n + 1) / 2) (i / 2) (clm H x s) q r) := if_pos h

/-- a proof's steps as they are handed over -/
def stI (p : List (Bool × Nat)) : List (Bool × Int) := p.map fun s => (s.1, (s.2 : Int))

theorem ab_bound (B : Nat) (hH : ∀ s, H s < B) : ∀ l : List Nat, (∀ x ∈ l, x < B) → ∀ x ∈ ab H l, x < B
  | [], h => h
  | [_], h => h
  | x :: y :: r, h => by
    intro z hz
    rw [ab_two, List.mem_cons] at hz
    rcases hz with rfl | hz
    · exact hH _
    · exact ab_bound B hH r (fun x hx => h x (by simp [hx])) z hz

theorem getD_lt (l : List Nat) (B i : Nat) (hB : 0 < B) (h : ∀ x ∈ l, x < B) : l.getD i 0 < B := by
  rw [List.getD_eq_getElem?_getD]
  by_cases hi : i < l.length
  · rw [List.getElem?_eq_getElem hi]; exact h _ (List.getElem_mem hi)
  · rw [List.getElem?_eq_none (by omega)]; exact hB

theorem ab_getD : ∀ (l : List Nat) (m : Nat), (ab H l).getD m 0 = if 2 * m + 1 < l.length then hp H (l.getD (2 * m) 0) (l.getD (2 * m + 1) 0) else l.getD (2 * m) 0
  | [], m => by simp [ab]
  | [x], 0 => by simp [ab]
  | [x], m + 1 => by simp [ab, show 2 * (m + 1) = 2 * m + 1 + 1 by omega]
  | x :: y :: r, 0 => by simp [ab_two]
  | x :: y :: r, m + 1 => by
    have := ab_getD r m
    rw [ab_two, List.getD_cons_succ, this, show 2 * (m + 1) = 2 * m + 1 + 1 by omega, List.getD_cons_succ, List.getD_cons_succ, List.getD_cons_succ, List.getD_cons_succ, List.length_cons, List.length_cons]
    by_cases h : 2 * m + 1 < r.length
    · rw [if_pos h, if_pos (by omega)]
    · rw [if_neg h, if_neg (by omega)]

theorem vf_pf (hH : ∀ s, H s < 2147483648) : ∀ (k : Nat) (l : List Nat) (i : Nat), i < l.length → l.length ≤ 2 ^ k → (∀ x ∈ l, x < 2147483648) →
    vf H k l.length i (l.getD i 0) (stI (pf H k l i)) (rt H k l : Nat) = true
  | 0, l, i, h0, h1, _ => by
    simp at h1
    match l, i, h0, h1 with
    | [x], 0, _, _ => simp [vf, stI, pf, rt, it]
  | k + 1, l, i, h0, h1, hb => by
    have la := ab_length H l
    rw [Nat.pow_succ] at h1
    have ih := vf_pf hH k (ab H l) (i / 2) (by omega) (by omega) (ab_bound H _ hH l hb)
    rw [la, ab_getD] at ih
    by_cases h : bes i < l.length
    · have hbd := getD_lt l _ (bes i) (by omega) hb
      have e : clm H (l.getD i 0) (i % 2 == 1, ((l.getD (bes i) 0 : Nat) : Int)) = if 2 * (i / 2) + 1 < l.length then hp H (l.getD (2 * (i / 2)) 0) (l.getD (2 * (i / 2) + 1) 0) else l.getD (2 * (i / 2)) 0 := by
        unfold clm bes
        unfold bes at h
        by_cases hi : i % 2 = 0
        · rw [if_pos hi] at h
          rw [show (i % 2 == 1) = false by rw [hi]; rfl, if_neg Bool.false_ne_true, if_pos hi, show 2 * (i / 2) = i by omega, if_pos h, Int.toNat_natCast]
        · rw [show (i % 2 == 1) = true by rw [beq_iff_eq]; omega, if_pos rfl, if_neg hi, show 2 * (i / 2) = i - 1 by omega, show i - 1 + 1 = i by omega, if_pos h0, Int.toNat_natCast]
      rw [pf, if_pos h]
      show vf H (k + 1) l.length i (l.getD i 0) ((i % 2 == 1, ((l.getD (bes i) 0 : Nat) : Int)) :: stI (pf H k (ab H l) (i / 2))) _ = true
      rw [vf_cons H k _ _ _ _ _ _ h, e]
      have hf : fit (i % 2 == 1, ((l.getD (bes i) 0 : Nat) : Int)) i = true := by
        unfold fit
        rw [beq_self_eq_true, Bool.true_and, Bool.and_eq_true, decide_eq_true_eq, decide_eq_true_eq]
        omega
      rw [hf, Bool.true_and]
      exact ih
    · have he : i = 2 * (i / 2) ∧ ¬ 2 * (i / 2) + 1 < l.length := by unfold bes at h; split at h <;> omega
      rw [pf, if_neg h, List.nil_append, vf_no H k _ _ _ _ _ h]
      rw [if_neg he.2, ← he.1] at ih
      exact ih

/-- on which sides the steps stand -/
def sd : Nat → Nat → Nat → List Bool
  | 0, _, _ => []
  | k + 1, n, i => (if bes i < n then [i % 2 == 1] else []) ++ sd k ((n + 1) / 2) (i / 2)

theorem sd_pf : ∀ (k : Nat) (l : List Nat) (i : Nat), (pf H k l i).map Prod.fst = sd k l.length i
  | 0, _, _ => rfl
  | k + 1, l, i => by
    rw [pf, sd, List.map_append, sd_pf k, ab_length]
    by_cases h : bes i < l.length
    · rw [if_pos h, if_pos h]; rfl
    · rw [if_neg h, if_neg h]; rfl

/-- what a proof shows, side by side -/
def vs : List Bool → Nat → List (Bool × Int) → Int → Bool
  | [], x, [], r => ((x : Int) == r)
  | [], _, _ :: _, _ => false
  | _ :: _, _, [], _ => false
  | b :: t, x, s :: q, r => ((s.1 == b) && (decide (0 ≤ s.2) && decide (s.2 ≤ 2147483647))) && vs t (clm H x s) q r

theorem vf_vs : ∀ (k n i x : Nat) (p : List (Bool × Int)) (r : Int), vf H k n i x p r = vs H (sd k n i) x p r
  | 0, n, i, x, p, r => by cases p <;> rfl
  | k + 1, n, i, x, p, r => by
    rw [sd]
    by_cases h : bes i < n
    · rw [if_pos h]
      cases p with
      | nil => rw [vf_nil H _ _ _ _ _ h]; rfl
      | cons s q =>
        rw [vf_cons H _ _ _ _ _ _ _ h, vf_vs k]
        rfl
    · rw [if_neg h, vf_no H _ _ _ _ _ _ h, vf_vs k]
      rfl

theorem vs_length : ∀ (t : List Bool) (x : Nat) (p : List (Bool × Int)) (r : Int), vs H t x p r = true → t.length = p.length
  | [], _, [], _, _ => rfl
  | [], _, _ :: _, _, h => by simp [vs] at h
  | _ :: _, _, [], _, h => by simp [vs] at h
  | b :: t, x, s :: q, r, h => by
    rw [vs, Bool.and_eq_true] at h
    rw [List.length_cons, List.length_cons, vs_length t _ q r h.2]

theorem sd_halves (n i : Nat) (h0 : 2 ≤ n) (h1 : n ≤ 32) (hi : i < n) : sd 5 n i = if i < spn n then sd 5 (spn n) i ++ [false] else sd 5 (n - spn n) (i - spn n) ++ [true] := by
  have s1 := spn_lt n h0
  have e := prf_halves (fun _ => 0) (List.replicate n 0) i (by simpa using h0) (by simpa using h1) (by simpa using hi)
  have e := congrArg (List.map Prod.fst) e
  rw [show prf (fun _ => 0) (List.replicate n 0) i = pf (fun _ => 0) 5 (List.replicate n 0) i from rfl, sd_pf] at e
  simp only [List.length_replicate] at e
  rw [e]
  by_cases h : i < spn n
  · rw [if_pos h, if_pos h, List.map_append, show prf (fun _ => 0) ((List.replicate n 0).take (spn n)) i = pf (fun _ => 0) 5 ((List.replicate n 0).take (spn n)) i from rfl, sd_pf, List.length_take, List.length_replicate, Nat.min_eq_left (by omega)]
    rfl
  · rw [if_neg h, if_neg h, List.map_append, show prf (fun _ => 0) ((List.replicate n 0).drop (spn n)) (i - spn n) = pf (fun _ => 0) 5 ((List.replicate n 0).drop (spn n)) (i - spn n) from rfl, sd_pf, List.length_drop, List.length_replicate]
    rfl

end
end WoolTree
