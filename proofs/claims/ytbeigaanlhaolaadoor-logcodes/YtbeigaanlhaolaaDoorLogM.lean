/-
  Deeds as bytes, and logs of deeds, in plain words, by whatever fingerprint and frames: what is written is read; a log is played. Conditions: as each says.
-/
import Derived.Test.YtbeigaanlhaolaaDoorStM
namespace WoolVol
open WoolBag

variable {F : List UInt8 → Int}

/-! ytbeigaanlhaolaadoor# deeds as bytes -/

/-- a text behind its length -/
def lenT (t : List UInt8) : List UInt8 := UInt8.ofNat t.length :: t

/-- the encoding of a deed -/
def encO (o : Opn) : List UInt8 := UInt8.ofNat o.kd.toNat :: UInt8.ofNat o.pl.toNat :: (lenT o.nm ++ (lenT o.to ++ lenT o.tx))

/-- a text behind its length, and what follows -/
def takeT : List UInt8 → Option (List UInt8 × List UInt8)
  | [] => none
  | n :: r => if r.length < n.toNat then none else some (r.take n.toNat, r.drop n.toNat)

/-- the deed whose encoding a text is -/
def decO : List UInt8 → Option Opn
  | k :: a :: r =>
    match takeT r with
    | none => none
    | some (n, r1) =>
      match takeT r1 with
      | none => none
      | some (t, r2) =>
        match takeT r2 with
        | none => none
        | some (x, r3) => if r3 = [] ∧ chkO ⟨(k.toNat : Int), n, t, (a.toNat : Int), x⟩ = 0 then some ⟨(k.toNat : Int), n, t, (a.toNat : Int), x⟩ else none
  | _ => none

theorem takeT_len (t r : List UInt8) (h : t.length < 256) : takeT (lenT t ++ r) = some (t, r) := by
  have e : (UInt8.ofNat t.length).toNat = t.length := by rw [UInt8.toNat_ofNat']; omega
  show (if (t ++ r).length < (UInt8.ofNat t.length).toNat then none else some ((t ++ r).take (UInt8.ofNat t.length).toNat, (t ++ r).drop (UInt8.ofNat t.length).toNat)) = _
  rw [e, if_neg (by rw [List.length_append]; omega)]
  simp

theorem takeT_back {s t r : List UInt8} (h : takeT s = some (t, r)) : s = lenT t ++ r ∧ t.length < 256 := by
  cases s with
  | nil => simp [takeT] at h
  | cons n s =>
    simp only [takeT] at h
    by_cases hl : s.length < n.toNat
    · rw [if_pos hl] at h; cases h
    · rw [if_neg hl] at h
      simp only [Option.some.injEq, Prod.mk.injEq] at h
      obtain ⟨rfl, rfl⟩ := h
      have hn : n.toNat < 256 := n.toNat_lt
      have hlen : (s.take n.toNat).length = n.toNat := by rw [List.length_take]; omega
      refine ⟨?_, by omega⟩
      unfold lenT
      rw [hlen]
      simp

theorem nameB_len {s : List UInt8} (h : nameB s = true) : 1 ≤ s.length ∧ s.length ≤ 12 := by
  unfold nameB at h
  simp only [Bool.and_eq_true, decide_eq_true_eq] at h
  exact h.1

/-- a deed that is in order -/
theorem chkO_ok {o : Opn} (h : chkO o = 0) : 1 ≤ o.kd ∧ o.kd ≤ 5 ∧ nameB o.nm = true ∧ (o.kd = 5 → nameB o.to = true) ∧ 0 ≤ o.pl ∧ o.pl ≤ 32 ∧ o.tx.length ≤ 64 ∧ (o.kd ≠ 5 → o.to = []) ∧ (o.kd ≠ 3 → o.tx = []) ∧ ((o.kd = 2 ∨ o.kd = 5) → o.pl = 0) := by
  unfold chkO at h
  by_cases h1 : o.kd < 1 ∨ 5 < o.kd
  · rw [if_pos h1] at h; cases h
  rw [if_neg h1] at h
  by_cases h2 : nameB o.nm = false ∨ (o.kd = 5 ∧ nameB o.to = false)
  · rw [if_pos h2] at h; cases h
  rw [if_neg h2] at h
  by_cases h3 : o.pl < 0 ∨ 32 < o.pl
  · rw [if_pos h3] at h; cases h
  rw [if_neg h3] at h
  by_cases h4 : 64 < o.tx.length
  · rw [if_pos h4] at h; cases h
  rw [if_neg h4] at h
  by_cases h5 : (o.kd ≠ 5 ∧ o.to ≠ []) ∨ (o.kd ≠ 3 ∧ o.tx ≠ []) ∨ ((o.kd = 2 ∨ o.kd = 5) ∧ o.pl ≠ 0)
  · rw [if_pos h5] at h; cases h
  refine ⟨by omega, by omega, ?_, fun e => ?_, by omega, by omega, by omega, fun e => ?_, fun e => ?_, fun e => ?_⟩
  · cases e : nameB o.nm with
    | true => rfl
    | false => exact absurd (.inl e) h2
  · cases e2 : nameB o.to with
    | true => rfl
    | false => exact absurd (.inr ⟨e, e2⟩) h2
  · apply Classical.byContradiction
    intro hne
    exact h5 (.inl ⟨e, hne⟩)
  · apply Classical.byContradiction
    intro hne
    exact h5 (.inr (.inl ⟨e, hne⟩))
  · apply Classical.byContradiction
    intro hne
    exact h5 (.inr (.inr ⟨e, hne⟩))

theorem chkO_to {o : Opn} (h : chkO o = 0) : o.to.length ≤ 12 := by
  obtain ⟨_, _, _, h4, _, _, _, h8, _⟩ := chkO_ok h
  by_cases e : o.kd = 5
  · exact (nameB_len (h4 e)).2
  · rw [h8 e]; simp

theorem encO_len {o : Opn} (h : chkO o = 0) : (encO o).length = 5 + o.nm.length + o.to.length + o.tx.length ∧ (encO o).length ≤ 93 ∧ 6 ≤ (encO o).length := by
  obtain ⟨_, _, h3, h4, _, _, h7, h8, _⟩ := chkO_ok h
  have hn := nameB_len h3
  have ht := chkO_to h
  have e : (encO o).length = 5 + o.nm.length + o.to.length + o.tx.length := by
    unfold encO lenT
    simp only [List.length_cons, List.length_append]
    omega
  omega

theorem dec_enc {o : Opn} (h : chkO o = 0) : decO (encO o) = some o := by
  obtain ⟨h1, h2, h3, h4, h5, h6, h7, h8, _⟩ := chkO_ok h
  have hn := nameB_len h3
  have ht := chkO_to h
  have ek : ((UInt8.ofNat o.kd.toNat).toNat : Int) = o.kd := by rw [UInt8.toNat_ofNat']; omega
  have ea : ((UInt8.ofNat o.pl.toNat).toNat : Int) = o.pl := by rw [UInt8.toNat_ofNat']; omega
  have e3 : takeT (lenT o.tx) = some (o.tx, []) := by
    have := takeT_len o.tx [] (by omega)
    rwa [List.append_nil] at this
  unfold encO decO
  simp only [takeT_len o.nm _ (by omega), takeT_len o.to _ (by omega), e3, ek, ea]
  rw [if_pos ⟨trivial, h⟩]

theorem enc_dec {s : List UInt8} {o : Opn} (h : decO s = some o) : s = encO o ∧ chkO o = 0 := by
  match s, h with
  | [], h => simp [decO] at h
  | [_], h => simp [decO] at h
  | k :: a :: r, h =>
    simp only [decO] at h
    cases h1 : takeT r with
    | none => rw [h1] at h; simp at h
    | some p =>
      obtain ⟨n, r1⟩ := p
      rw [h1] at h
      simp only at h
      cases h2 : takeT r1 with
      | none => rw [h2] at h; simp at h
      | some p =>
        obtain ⟨t, r2⟩ := p
        rw [h2] at h
        simp only at h
        cases h3 : takeT r2 with
        | none => rw [h3] at h; simp at h
        | some p =>
          obtain ⟨x, r3⟩ := p
          rw [h3] at h
          simp only at h
          by_cases hc : r3 = [] ∧ chkO ⟨(k.toNat : Int), n, t, (a.toNat : Int), x⟩ = 0
          · rw [if_pos hc] at h
            simp only [Option.some.injEq] at h
            subst h
            obtain ⟨rfl, hc⟩ := hc
            refine ⟨?_, hc⟩
            have b1 := (takeT_back h1).1
            have b2 := (takeT_back h2).1
            have b3 := (takeT_back h3).1
            rw [List.append_nil] at b3
            unfold encO
            simp only [Int.toNat_natCast]
            rw [b1, b2, b3]
            simp
          · rw [if_neg hc] at h; cases h

theorem enc_inj {o p : Opn} (ho : chkO o = 0) (hp : chkO p = 0) : encO o = encO p ↔ o = p := by
  constructor
  · intro h
    have h1 := dec_enc ho
    rw [h, dec_enc hp] at h1
    exact (Option.some.inj h1).symm
  · rintro rfl; rfl

/-! ytbeigaanlhaolaadoor# logs -/

variable (F)

/-- each deed is done -/
def runs : Sta → List Opn → Sta → Prop
  | st, [], to => to = st
  | st, o :: r, to => (doO F st o).2 = 0 ∧ runs (doO F st o).1 r to

/-- of deeds those that are done, and what comes of them -/
def keptFrom (st : Sta) : List Opn → List Opn × Sta
  | [] => ([], st)
  | o :: r => if (doO F st o).2 = 0 then (o :: (keptFrom (doO F st o).1 r).1, (keptFrom (doO F st o).1 r).2) else keptFrom st r

variable {F}

theorem kept_runs : ∀ (l : List Opn) (st : Sta), runs F st (keptFrom F st l).1 (keptFrom F st l).2
  | [], st => rfl
  | o :: r, st => by
    unfold keptFrom
    by_cases h : (doO F st o).2 = 0
    · rw [if_pos h]; exact ⟨h, kept_runs r _⟩
    · rw [if_neg h]; exact kept_runs r st

theorem kept_state : ∀ (l : List Opn) (st : Sta), (keptFrom F st l).2 = deeds F st l
  | [], st => rfl
  | o :: r, st => by
    show _ = deeds F (stepO F st o) r
    unfold keptFrom stepO
    by_cases h : (doO F st o).2 = 0
    · rw [if_pos h, if_pos h]; exact kept_state r _
    · rw [if_neg h, if_neg h]; exact kept_state r st

theorem kept_len : ∀ (l : List Opn) (st : Sta), (keptFrom F st l).1.length ≤ l.length
  | [], st => Nat.le_refl _
  | o :: r, st => by
    unfold keptFrom
    by_cases h : (doO F st o).2 = 0
    · rw [if_pos h]
      have := kept_len r (doO F st o).1
      simp only [List.length_cons]
      omega
    · rw [if_neg h]
      have := kept_len r st
      simp only [List.length_cons]
      omega

theorem runs_chk : ∀ (l : List Opn) {st to : Sta}, runs F st l to → ∀ o ∈ l, chkO o = 0
  | [], _, _, _, o, h => by simp at h
  | p :: r, st, to, hr, o, h => by
    obtain ⟨h1, h2⟩ := hr
    rw [List.mem_cons] at h
    rcases h with rfl | h
    · unfold doO at h1
      by_cases hc : chkO o ≠ 0
      · rw [if_pos hc] at h1; exact absurd h1 hc
      · omega
    · exact runs_chk r h2 o h

theorem runs_deeds : ∀ (l : List Opn) {st to : Sta}, runs F st l to → deeds F st l = to
  | [], _, _, h => h.symm
  | o :: r, st, to, h => by
    obtain ⟨h1, h2⟩ := h
    show deeds F (stepO F st o) r = to
    unfold stepO
    rw [if_pos h1]
    exact runs_deeds r h2

theorem runs_take : ∀ (l : List Opn) (m : Nat) {st to : Sta}, runs F st l to → ∃ mid, runs F st (l.take m) mid ∧ runs F mid (l.drop m) to
  | l, 0, st, to, h => ⟨st, rfl, h⟩
  | [], m + 1, st, to, h => ⟨st, rfl, h⟩
  | o :: r, m + 1, st, to, h => by
    obtain ⟨h1, h2⟩ := h
    obtain ⟨mid, a, b⟩ := runs_take r m h2
    exact ⟨mid, ⟨h1, a⟩, b⟩

theorem runs_append : ∀ (a b : List Opn) {st mid to : Sta}, runs F st a mid → runs F mid b to → runs F st (a ++ b) to
  | [], _, _, _, _, h, k => by cases h; exact k
  | _ :: r, b, _, _, _, h, k => ⟨h.1, runs_append r b h.2 k⟩

theorem runs_good : ∀ (l : List Opn) {st to : Sta}, Good F st → runs F st l to → Good F to
  | [], _, _, g, h => by cases h; exact g
  | o :: r, st, to, g, h => by
    obtain ⟨h1, h2⟩ := h
    refine runs_good r ?_ h2
    have := stepO_good g o
    unfold stepO at this
    rwa [if_pos h1] at this

/-- frames: what makes one of a body, what gets one -/
structure Frames (R : List UInt8 → List UInt8) (G : List UInt8 → (Nat × List UInt8) × Nat × Nat) : Prop where
  len : ∀ b, (R b).length = b.length + 7
  got : ∀ b more : List UInt8, b.length ≤ 700 → G (R b ++ more) = ((1, b), b.length + 7, 0)
  cut : ∀ (b : List UInt8) (k : Nat), b.length ≤ 700 → k < b.length + 7 → (G ((R b).take k)).2.2 = 7
  ok : ∀ s, (G s).2.2 = 0 → 7 ≤ (G s).2.1 ∧ (G s).2.1 ≤ s.length

variable (F) in
/-- a log played from a state, n deeds done -/
def playG (G : List UInt8 → (Nat × List UInt8) × Nat × Nat) : Nat → Sta → List UInt8 → Nat → Sta × Nat × Int
  | 0, st, _, n => (st, n, 0)
  | k + 1, st, s, n =>
    if s = [] ∨ (G s).2.2 = 7 then (st, n, 0)
    else if (G s).2.2 ≠ 0 then (zeroS, 0, ((G s).2.2 : Int))
    else if n = 200 then (zeroS, 0, 2)
    else match decO (G s).1.2 with
      | none => (zeroS, 0, 3)
      | some o => if (G s).1.1 ≠ 1 ∨ (doO F st o).2 ≠ 0 then (zeroS, 0, 3) else playG G k (doO F st o).1 (s.drop (G s).2.1) (n + 1)

theorem play_fuel {R : List UInt8 → List UInt8} {G : List UInt8 → (Nat × List UInt8) × Nat × Nat} (hf : Frames R G) : ∀ (k m : Nat) (st : Sta) (s : List UInt8) (n : Nat), s.length < k → s.length < m → playG F G k st s n = playG F G m st s n
  | 0, _, _, _, _, h, _ => by omega
  | _ + 1, 0, _, _, _, _, h => by omega
  | k + 1, m + 1, st, s, n, hk, hm => by
    unfold playG
    by_cases h1 : s = [] ∨ (G s).2.2 = 7
    · rw [if_pos h1, if_pos h1]
    rw [if_neg h1, if_neg h1]
    by_cases h2 : (G s).2.2 ≠ 0
    · rw [if_pos h2, if_pos h2]
    rw [if_neg h2, if_neg h2]
    by_cases h3 : n = 200
    · rw [if_pos h3, if_pos h3]
    rw [if_neg h3, if_neg h3]
    cases decO (G s).1.2 with
    | none => rfl
    | some o =>
      simp only
      by_cases h4 : (G s).1.1 ≠ 1 ∨ (doO F st o).2 ≠ 0
      · rw [if_pos h4, if_pos h4]
      rw [if_neg h4, if_neg h4]
      have h5 := hf.ok s (by omega)
      have h6 : (s.drop (G s).2.1).length = s.length - (G s).2.1 := List.length_drop
      exact play_fuel hf k m _ _ _ (by omega) (by omega)

variable (F) in
/-- what Replay answers -/
def replayG (G : List UInt8 → (Nat × List UInt8) × Nat × Nat) (s : List UInt8) : Sta × Nat × Int := playG F G (s.length + 1) zeroS s 0

/-- the log of deeds -/
def logG (R : List UInt8 → List UInt8) (l : List Opn) : List UInt8 := (l.map fun o => R (encO o)).flatten

theorem logG_nil (R : List UInt8 → List UInt8) : logG R [] = [] := rfl
theorem logG_cons (R : List UInt8 → List UInt8) (o : Opn) (l : List Opn) : logG R (o :: l) = R (encO o) ++ logG R l := by unfold logG; simp
theorem logG_append (R : List UInt8 → List UInt8) (a b : List Opn) : logG R (a ++ b) = logG R a ++ logG R b := by unfold logG; simp

/-- deeds that are done, played from their log -/
theorem play_log {R : List UInt8 → List UInt8} {G : List UInt8 → (Nat × List UInt8) × Nat × Nat} (hf : Frames R G) : ∀ (l : List Opn) {st to : Sta} (more : List UInt8) (n k : Nat), runs F st l to → n + l.length ≤ 200 → (logG R l ++ more).length < k →
    playG F G k st (logG R l ++ more) n = playG F G (more.length + 1) to more (n + l.length)
  | [], st, to, more, n, k, h, _, hk => by
    cases h
    exact play_fuel hf _ _ _ _ _ (by rw [logG_nil, List.nil_append] at hk ⊢; exact hk) (by rw [logG_nil, List.nil_append]; omega)
  | o :: r, st, to, more, n, 0, h, _, hk => by omega
  | o :: r, st, to, more, n, k + 1, h, hn, hk => by
    have hc := runs_chk (o :: r) h o (by simp)
    obtain ⟨h1, h2⟩ := h
    have hl := encO_len hc
    have hg := hf.got (encO o) (logG R r ++ more) (by omega)
    rw [List.length_cons] at hn
    have hR := hf.len (encO o)
    rw [logG_cons, List.append_assoc] at hk ⊢
    have hne : R (encO o) ++ (logG R r ++ more) ≠ [] := by
      intro e
      have := congrArg List.length e
      rw [List.length_append, hR] at this
      simp at this
    unfold playG
    rw [hg]
    simp only
    rw [if_neg (by simp [hne]), if_neg (by simp), if_neg (by omega), dec_enc hc]
    simp only
    rw [if_neg (by simp [h1])]
    have e2 : (R (encO o) ++ (logG R r ++ more)).drop ((encO o).length + 7) = logG R r ++ more := by
      rw [← hR, List.drop_left]
    rw [e2, List.length_cons, show n + (r.length + 1) = n + 1 + r.length by omega]
    rw [List.length_append] at hk
    exact play_log hf r more (n + 1) k h2 (by omega) (by omega)

/-- what was written of deeds that were done makes the same state again -/
theorem replay_log {R : List UInt8 → List UInt8} {G : List UInt8 → (Nat × List UInt8) × Nat × Nat} (hf : Frames R G) {l : List Opn} {to : Sta} (h : runs F zeroS l to) (hl : l.length ≤ 200) : replayG F G (logG R l) = (to, l.length, 0) := by
  have := play_log hf l [] 0 ((logG R l).length + 1) h (by omega) (by simp)
  rw [List.append_nil] at this
  unfold replayG
  rw [this]
  unfold playG
  rw [if_pos (.inl rfl)]
  simp

/-- a log cut off: the whole frames -/
theorem log_take {R : List UInt8 → List UInt8} {G : List UInt8 → (Nat × List UInt8) × Nat × Nat} (hf : Frames R G) : ∀ (l : List Opn) (k : Nat), (∀ o ∈ l, chkO o = 0) → ∃ m, m ≤ l.length ∧ ∃ rest, (logG R l).take k = logG R (l.take m) ++ rest ∧ (rest = [] ∨ (G rest).2.2 = 7) ∧ (logG R (l.take m)).length ≤ k
  | [], k, _ => ⟨0, Nat.le_refl _, [], by simp [logG], .inl rfl, by simp [logG]⟩
  | o :: r, k, h => by
    have hc := h o (by simp)
    have hl := encO_len hc
    have hR := hf.len (encO o)
    by_cases hk : k < (encO o).length + 7
    · refine ⟨0, Nat.zero_le _, (R (encO o)).take k, ?_, .inr (hf.cut _ _ (by omega) hk), by simp [logG]⟩
      rw [logG_cons, List.take_append_of_le_length (by omega)]
      simp [logG]
    · obtain ⟨m, hm, rest, e, hrest, hlen⟩ := log_take hf r (k - ((encO o).length + 7)) (fun p hp => h p (by simp [hp]))
      refine ⟨m + 1, by rw [List.length_cons]; omega, rest, ?_, hrest, ?_⟩
      · rw [logG_cons, List.take_append, List.take_of_length_le (by omega), hR, e, List.take_succ_cons, logG_cons, List.append_assoc]
      · rw [List.take_succ_cons, logG_cons, List.length_append, hR]
        omega

theorem replay_torn {R : List UInt8 → List UInt8} {G : List UInt8 → (Nat × List UInt8) × Nat × Nat} (hf : Frames R G) {l : List Opn} {to : Sta} (h : runs F zeroS l to) (hl : l.length ≤ 200) (k : Nat) :
    ∃ m mid, m ≤ l.length ∧ runs F zeroS (l.take m) mid ∧ replayG F G ((logG R l).take k) = (mid, m, 0) ∧ (logG R (l.take m)).length ≤ k := by
  obtain ⟨m, hm, rest, e, hrest, hlen⟩ := log_take hf l k (runs_chk l h)
  obtain ⟨mid, h1, _⟩ := runs_take l m h
  have hlm : (l.take m).length = m := by rw [List.length_take]; omega
  refine ⟨m, mid, hm, h1, ?_, hlen⟩
  unfold replayG
  rw [e]
  have := play_log hf (l.take m) rest 0 ((logG R (l.take m) ++ rest).length + 1) h1 (by omega) (by omega)
  rw [this, hlm]
  unfold playG
  rw [if_pos hrest]
  simp

end WoolVol
