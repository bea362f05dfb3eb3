/-
  The texts LogE, RefFour, RefBody, ShelfN, RefVol1, RefW, RefDeed, one behind the other; each says below what it holds and on what conditions.
-/
import Derived.Test.YtbeigaanlhaolaaGreatDoorJB25
import Derived.Test.YtbeigaanlhaolaaGreatDoorJB24
import Derived.Test.YtbeigaanlhaolaaGreatDoorJB01
import Derived.Test.YtbeigaanlhaolaaGreatDoorJB07
import Derived.Deep.RegionWith
import Derived.Test.YtbeigaanlhaolaaGreatDoorJB08
import Derived.Deep.DeepCutAuto
import Derived.Shelf.Strings.Trim
import Derived.Shelf.LaysM
import Derived.Shelf.Strings.FuncGrows
import Derived.Test.YtbeigaanlhaolaaGreatDoorProg
import Derived.Test.YtbeigaanlhaolaaGreatDoorJB06
import Derived.Shelf.Strings.SlTrimAscii
import Derived.Laws.RangeString

/-
  What package log's Replay returns. Conditions: a log of at most 2^48 bytes.
-/
namespace Go.Proofs.YtbeigaanlhaolaaGreatDoor
open Go.RowKit
open Go.Proofs
open WoolBag
open WoolVol

def strSz : Value → Nat
  | .string b => b.size
  | _ => 0

def RepPost (w : World) (r : Sta × Nat × Int) (e : Ending) (w' : World) : Prop :=
  ∃ (o1 : Option Addr) (c1 : Nat) (o2 : Option Addr) (c2 : Nat), e = .returned (.tuple #[.agg #[.slice o1 r.1.b.length c1, .slice o2 r.1.v.length c2], .int .i64 ((r.2.1 : Nat) : Int), .int .i64 r.2.2]) ∧ Stat w' (.agg #[.slice o1 r.1.b.length c1, .slice o2 r.1.v.length c2]) r.1 ∧ Up w w'

structure ReI (R X : Nat) (w : World) (RS : Sta × Nat × Int) (s : List UInt8) (n : Nat) (cur : Sta) (x y : Value) (wr : World) : Prop where
  row : RowC wr X 36 [x, y]
  box : RowC wr R 36 [.slice none 0 0, .slice none 0 0]
  st : Stat wr (.agg #[x, y]) cur
  good : WoolVol.Good FP cur
  eq : playG FP getV (s.length + 1) cur s n = RS
  le : n ≤ 200
  len : s.length ≤ 281474976710656
  up : Up w wr

def ReLoop (R X : Nat) (w : World) (RS : Sta × Nat × Int) (vs vn : Value) (wr : World) : Prop :=
  ∃ (s : List UInt8) (n : Nat) (cur : Sta) (x y : Value), vs = .string (bs s) ∧ vn = .int .i64 (n : Int) ∧ ReI R X w RS s n cur x y wr

/-- a round of the play -/
theorem play_step {cur : Sta} {s B : List UInt8} {n K Z E : Nat} {RS : Sta × Nat × Int} (hG : getV s = ((K, B), Z, E)) (h : playG FP getV (s.length + 1) cur s n = RS) :
    (E = 7 → RS = (cur, n, 0)) ∧ (E ≠ 7 → E ≠ 0 → RS = (zeroS, 0, (E : Int))) ∧ (E = 0 → Z ≤ s.length ∧ 0 < Z ∧ B.length ≤ 700 ∧ (n = 200 → RS = (zeroS, 0, 2)) ∧
      (n ≠ 200 → ((appR cur (K : Int) B).2 = false → RS = (zeroS, 0, 3)) ∧ ((appR cur (K : Int) B).2 = true → WoolVol.Good FP (appR cur (K : Int) B).1 ∧ playG FP getV ((s.drop Z).length + 1) (appR cur (K : Int) B).1 (s.drop Z) (n + 1) = RS))) := by
  have hs0 : s = [] → E = 7 := by
    rintro rfl
    have h9 : getV [] = ((0, []), 0, 7) := by rfl
    rw [h9] at hG
    simp only [Prod.mk.injEq] at hG
    omega
  have hu : playG FP getV (s.length + 1) cur s n = if s = [] ∨ (getV s).2.2 = 7 then (cur, n, 0)
    else if (getV s).2.2 ≠ 0 then (zeroS, 0, ((getV s).2.2 : Int))
    else if n = 200 then (zeroS, 0, 2)
    else match decO (getV s).1.2 with
      | none => (zeroS, 0, 3)
      | some o => if (getV s).1.1 ≠ 1 ∨ (doO FP cur o).2 ≠ 0 then (zeroS, 0, 3) else playG FP getV s.length (doO FP cur o).1 (s.drop (getV s).2.1) (n + 1) := rfl
  rw [hu, hG] at h
  simp only at h
  refine ⟨fun e => ?_, fun e7 e0 => ?_, fun e0 => ?_⟩
  · rw [if_pos (.inr e)] at h; exact h.symm
  · rw [if_neg (by rintro (h9 | h9); exact e7 (hs0 h9); exact e7 h9), if_pos e0] at h; exact h.symm
  · subst e0
    have hsn : ¬ (s = [] ∨ (0 : Nat) = 7) := by
      rintro (h9 | h9)
      · have := hs0 h9; omega
      · omega
    rw [if_neg hsn, if_neg (by simp)] at h
    obtain ⟨K', B', _, _, h3, h4, h5, _⟩ := get_ok s (by rw [hG])
    rw [hG] at h5
    simp only [Prod.mk.injEq] at h5
    obtain ⟨⟨rfl, rfl⟩, rfl, _⟩ := h5
    refine ⟨h4, by omega, h3, fun hn => ?_, fun hn => ?_⟩
    · rw [if_pos hn] at h; exact h.symm
    · rw [if_neg hn] at h
      unfold appR
      by_cases hK : K = 1
      · subst hK
        rw [if_neg (by simp)]
        cases hd : decO B with
        | none => rw [hd] at h; exact ⟨fun _ => h.symm, fun h9 => by simp at h9⟩
        | some o =>
          rw [hd] at h
          simp only at h ⊢
          by_cases hz : (doO FP cur o).2 = 0
          · rw [if_neg (by simp [hz])] at h
            refine ⟨fun h9 => by simp [hz] at h9, fun _ => ⟨?_, ?_⟩⟩
            · unfold doO at hz ⊢
              by_cases hc : chkO o ≠ 0
              · rw [if_pos hc]; exact zero_good
              · rw [if_neg hc] at hz ⊢
                exact (doK_good hz).2
            · rw [← h]
              refine play_fuel frames1 _ _ _ _ _ (by omega) ?_
              rw [List.length_drop]
              omega
          · rw [if_pos (.inr hz)] at h
            exact ⟨fun _ => h.symm, fun h9 => by simp [hz] at h9⟩
      · rw [if_pos (by omega)]
        refine ⟨fun _ => ?_, fun h9 => by simp at h9⟩
        cases hd : decO B with
        | none => rw [hd] at h; exact h.symm
        | some o => rw [hd] at h; simp only at h; rw [if_pos (.inl hK)] at h; exact h.symm

end Go.Proofs.YtbeigaanlhaolaaGreatDoor

/-
  What the reference's Four returns. Conditions: a number below 2^32.
-/
namespace Go.Proofs.YtbeigaanlhaolaaGreatDoor
open Go.RowKit
open Go.Proofs

theorem nb4 (n : Nat) : nb n 4 = [UInt8.ofNat (n / 16777216), UInt8.ofNat (n / 65536), UInt8.ofNat (n / 256), UInt8.ofNat n] := by
  simp [nb, Nat.div_div_eq_div_mul]

/-- a text of bytes in a block, whatever came behind it -/
theorem conv_cells (l : List UInt8) (b c : Nat) (v : World) (h : ∀ j x, l[j]? = some x → v.cell? ⟨b, j, none⟩ = some (.int .u8 (x.toNat : Int))) :
    (convert 43 9 (.slice (some ⟨b, 0, none⟩) l.length c)).run Tryz.prog v = .ok (.string (bs l)) v := by
  refine run_convert_bytes_back (P := Tryz.prog) _ 43 9 5 _ c l Tryz.underlying43 Tryz.underlying5 Tryz.underlying9 ?_
  intro j hj
  rw [← h j l[j] (List.getElem?_eq_getElem hj)]
  congr 1
  unfold Addr.add
  split
  · rename_i e; subst e; rfl
  · simp

theorem four_any (n : Nat) (w : World) (hn : n < 4294967296) :
    Calls Tryz.prog 17 #[.int .i64 (n : Int)] w fun e w' => e = .returned (.string (bs (nb n 4))) ∧ Up w w' := by
  have hconv := conv_cells [UInt8.ofNat (n / 16777216), UInt8.ofNat (n / 65536), UInt8.ofNat (n / 256), UInt8.ofNat n] w.heap.size 4 (w.alloc (.cells #[.int .u8 ((n : Int) / 16777216), .int .u8 ((n : Int) / 65536 % 256), .int .u8 ((n : Int) / 256 % 256), .int .u8 ((n : Int) % 256)] 5)) (by
    intro j x hx
    match j with
    | 0 => refine (World.cell?_alloc_mark _ _ _ _ 0).trans ?_; simp at hx ⊢; subst hx; simp; omega
    | 1 => refine (World.cell?_alloc_mark _ _ _ _ 1).trans ?_; simp at hx ⊢; subst hx; simp
    | 2 => refine (World.cell?_alloc_mark _ _ _ _ 2).trans ?_; simp at hx ⊢; subst hx; simp
    | 3 => refine (World.cell?_alloc_mark _ _ _ _ 3).trans ?_; simp at hx ⊢; subst hx; simp
    | j + 4 => simp at hx)
  rw [← nb4, nb_length] at hconv
  go_enter Tryz.func17, Tryz.ntmps17
  go_wp2_with fail
  go_ret
  exact ⟨rfl, Up.alloc _ _⟩

end Go.Proofs.YtbeigaanlhaolaaGreatDoor

/-
  What the reference's Body returns. Conditions: a right deed.
-/
namespace Go.Proofs.YtbeigaanlhaolaaGreatDoor
open Go.RowKit
open Go.Proofs
open WoolBag
open WoolVol

def BodyRel (w : World) (A0 A1 A2 A3 : ByteArray) (out i : Value) (wr : World) : Prop :=
  Up w wr ∧ ((i = .int .i64 0 ∧ out = .string A0) ∨ (i = .int .i64 1 ∧ out = .string A1) ∨ (i = .int .i64 2 ∧ out = .string A2) ∨ (i = .int .i64 3 ∧ out = .string A3))

theorem nb4_last (n : Nat) : (nb n 4).drop 3 = [UInt8.ofNat n] := by
  rw [nb4]
  rfl

set_option maxRecDepth 100000 in
set_option maxHeartbeats 2000000 in
theorem refBody_any (o : Opn) (w : World) (hc : chkO o = 0) : Calls Tryz.prog 7 #[opA o] w fun e w' => e = .returned (.string (bs (encO o))) ∧ Up w w' := by
  obtain ⟨k1, k2, k3, _, k5, k6, k7, _⟩ := chkO_ok hc
  have kn := nameB_len k3
  have kt := chkO_to hc
  obtain ⟨kd, nm, ot, pl, tx⟩ := o
  unfold opA
  simp only at k1 k2 k5 k6 k7 kn kt ⊢
  obtain ⟨c, hcc, hci, hcn⟩ := byte_at kd.toNat (by omega)
  obtain ⟨d, hd, hdi, hdn⟩ := byte_at pl.toNat (by omega)
  have hw1 : IntKind.u8.wrap kd = ((c.toNat : Nat) : Int) := by rw [hci, IntWalk.u8_in _ (by omega)]; omega
  have hw2 : IntKind.u8.wrap pl = ((d.toNat : Nat) : Int) := by rw [hdi, IntWalk.u8_in _ (by omega)]; omega
  have hconv := conv_two c d
  have he : encO ⟨kd, nm, ot, pl, tx⟩ = (([c, d] ++ lenT nm) ++ lenT ot) ++ lenT tx := by
    unfold encO
    simp only
    rw [← hcc, ← hd]
    simp
  have l1 : (lenT nm).length = nm.length + 1 := rfl
  have l2 : (lenT ot).length = ot.length + 1 := rfl
  have l3 : (lenT tx).length = tx.length + 1 := rfl
  have ha1 : ∀ v : World, (Op.stringOp .add ⟨#[c, d]⟩ (bs (lenT nm))).run Tryz.prog v = .ok (.string (bs ([c, d] ++ lenT nm))) v := add_bs [c, d] (lenT nm) (by simp; omega)
  have ha2 := add_bs ([c, d] ++ lenT nm) (lenT ot) (by simp; omega)
  have ha3 := add_bs (([c, d] ++ lenT nm) ++ lenT ot) (lenT tx) (by simp; omega)
  rw [← he] at ha3
  have hb1 : ∀ v : World, (Op.stringOp .add (bs [UInt8.ofNat nm.length]) (bs nm)).run Tryz.prog v = .ok (.string (bs (lenT nm))) v := add_bs [UInt8.ofNat nm.length] nm (by simp; omega)
  have hs1 := from_bs (nb nm.length 4) 3 3 rfl (by rw [nb_length]; omega)
  rw [nb4_last] at hs1
  have HF1 := Lib.hid (fun W => four_any nm.length W (by omega))
  have hz1 := bs_size nm
  have hb2 : ∀ v : World, (Op.stringOp .add (bs [UInt8.ofNat ot.length]) (bs ot)).run Tryz.prog v = .ok (.string (bs (lenT ot))) v := add_bs [UInt8.ofNat ot.length] ot (by simp; omega)
  have hs2 := from_bs (nb ot.length 4) 3 3 rfl (by rw [nb_length]; omega)
  rw [nb4_last] at hs2
  have HF2 := Lib.hid (fun W => four_any ot.length W (by omega))
  have hz2 := bs_size ot
  have hb3 : ∀ v : World, (Op.stringOp .add (bs [UInt8.ofNat tx.length]) (bs tx)).run Tryz.prog v = .ok (.string (bs (lenT tx))) v := add_bs [UInt8.ofNat tx.length] tx (by simp; omega)
  have hs3 := from_bs (nb tx.length 4) 3 3 rfl (by rw [nb_length]; omega)
  rw [nb4_last] at hs3
  have HF3 := Lib.hid (fun W => four_any tx.length W (by omega))
  have hz3 := bs_size tx
  clear k1 k2 k3 k5 k6 k7 kn kt hcc hci hcn hd hdi hdn he l1 l2 l3 hc
  generalize bs (nb nm.length 4) = F1 at *
  generalize bs [UInt8.ofNat nm.length] = L1 at *
  generalize nm.length = n1 at *
  generalize bs (nb ot.length 4) = F2 at *
  generalize bs [UInt8.ofNat ot.length] = L2 at *
  generalize ot.length = n2 at *
  generalize bs (nb tx.length 4) = F3 at *
  generalize bs [UInt8.ofNat tx.length] = L3 at *
  generalize tx.length = n3 at *
  generalize bs (encO ⟨kd, nm, ot, pl, tx⟩) = R3 at *
  generalize bs ([c, d] ++ lenT nm ++ lenT ot) = R2 at *
  generalize bs ([c, d] ++ lenT nm) = R1 at *
  generalize bs (lenT nm) = T1 at *
  generalize bs (lenT ot) = T2 at *
  generalize bs (lenT tx) = T3 at *
  generalize bs nm = N at *
  generalize bs ot = O at *
  generalize bs tx = T at *
  have HO : Hid (RowC (w.alloc (.cells #[.int .i64 kd, .string N, .string O, .int .i64 pl, .string T] 27)) w.heap.size 27 [.int .i64 kd, .string N, .string O, .int .i64 pl, .string T]) := heap_alloc_new w _
  have HU := Lib.hid (Up.alloc w (.cells #[.int .i64 kd, .string N, .string O, .int .i64 pl, .string T] 27))
  go_enter Tryz.func7, Tryz.ntmps7
  go_upto_region 1 with (fail)
  generalize w.alloc (.cells #[.int .i64 kd, .string N, .string O, .int .i64 pl, .string T] 27) = W0 at HO HU ⊢
  generalize w.heap.size = X at HO ⊢
  have q0 := HO.out.cell (j := 0) rfl
  have q3 := HO.out.cell (j := 3) rfl
  go_upto_region 2 with (fail)
  have HUB := Lib.hid (Up.alloc W0 (.cells #[.int .u8 ((c.toNat : Nat) : Int), .int .u8 ((d.toNat : Nat) : Int)] 5))
  generalize W0.alloc (.cells #[.int .u8 ((c.toNat : Nat) : Int), .int .u8 ((d.toNat : Nat) : Int)] 5) = W1 at HUB ⊢
  clear q0 q3
  have q1 := (HO.out.up HUB.out).cell (j := 1) rfl
  have q2 := (HO.out.up HUB.out).cell (j := 2) rfl
  have q4 := (HO.out.up HUB.out).cell (j := 4) rfl
  go_upto_region 3 with (fail)
  have HB : Hid (RowC (W1.alloc (.cells #[.string N, .string O, .string T] 9)) W1.heap.size 9 [.string N, .string O, .string T]) := heap_alloc_new W1 _
  have HU3 := Lib.hid ((HU.out.trans HUB.out).trans (Up.alloc W1 (.cells #[.string N, .string O, .string T] 9)))
  clear q1 q2 q4
  generalize W1.alloc (.cells #[.string N, .string O, .string T] 9) = W3 at HB HU3 ⊢
  generalize W1.heap.size = B at HB ⊢
  go_loopw [3, 22] (fun out i wr => BodyRel W3 ⟨#[c, d]⟩ R1 R2 R3 out i wr) (fun _ i _ => 3 - (intOf i).toNat)
  case atStart => exact ⟨Up.refl _, .inl ⟨rfl, rfl⟩⟩
  case round =>
    obtain ⟨hu, ⟨rfl, rfl⟩ | ⟨rfl, rfl⟩ | ⟨rfl, rfl⟩ | ⟨rfl, rfl⟩⟩ := hrel
    · have p := (HB.out.up hu).cell (j := 0) rfl
      have HUR := Lib.hid hu
      clear hu
      go_wp2_with fail
      refine (HF1.out _).mono ?_
      rintro e w1 ⟨rfl, u1⟩
      have HUR1 := Lib.hid (HUR.out.trans u1)
      clear u1
      go_wp2_with fail
      go_roundw
      case rel => exact ⟨HUR1.out, .inr (.inl ⟨rfl, rfl⟩)⟩
      case measure => simp only [intOf]; omega
    · have p := (HB.out.up hu).cell (j := 1) rfl
      have HUR := Lib.hid hu
      clear hu
      go_wp2_with fail
      refine (HF2.out _).mono ?_
      rintro e w1 ⟨rfl, u1⟩
      have HUR1 := Lib.hid (HUR.out.trans u1)
      clear u1
      go_wp2_with fail
      go_roundw
      case rel => exact ⟨HUR1.out, .inr (.inr (.inl ⟨rfl, rfl⟩))⟩
      case measure => simp only [intOf]; omega
    · have p := (HB.out.up hu).cell (j := 2) rfl
      have HUR := Lib.hid hu
      clear hu
      go_wp2_with fail
      refine (HF3.out _).mono ?_
      rintro e w1 ⟨rfl, u1⟩
      have HUR1 := Lib.hid (HUR.out.trans u1)
      clear u1
      go_wp2_with fail
      go_roundw
      case rel => exact ⟨HUR1.out, .inr (.inr (.inr ⟨rfl, rfl⟩))⟩
      case measure => simp only [intOf]; omega
    · have HUR := Lib.hid (HU3.out.trans hu)
      clear hu
      go_wp2_with fail
      go_ret
      exact ⟨rfl, HUR.out⟩

end Go.Proofs.YtbeigaanlhaolaaGreatDoor

/-
  Contracts of library functions at this program, each one application of a theorem of the library: what is proved is what each says. Conditions: as each says.
-/
namespace Go.Proofs
open Go.Shelf
def Tryz.lays160_ren : Go.Shelf.Ren := ⟨fun | 160 => 30 | 232 => 58 | 231 => 57 | 227 => 59 | 234 => 61 | 233 => 60 | 236 => 63 | 235 => 62 | 228 => 86 | 271 => 89 | 151 => 88 | 197 => 87 | 120 => 118 | 152 => 117 | 260 => 116 | 137 => 161 | 119 => 162 | 224 => 163 | 225 => 164 | 217 => 182 | 266 => 189 | n => n, fun | 9 => 9 | 4 => 4 | 3 => 3 | 5 => 5 | 117 => 106 | 116 => 105 | 0 => 0 | 124 => 109 | 21 => 21 | 105 => 132 | 46 => 97 | 119 => 197 | 139 => 200 | 138 => 199 | n => n, fun | 3 => 0 | 4 => 1 | n => n⟩
theorem Tryz.lays160 : Go.Proofs.Lays.n160 Tryz.prog Tryz.lays160_ren := {
  mixed := by kernel_rfl
  f119 := Tryz.func162.trans (congrArg some (by kernel_rfl))
  f120 := Tryz.func118.trans (congrArg some (by kernel_rfl))
  f137 := Tryz.func161.trans (congrArg some (by kernel_rfl))
  f151 := Tryz.func88.trans (congrArg some (by kernel_rfl))
  f152 := Tryz.func117.trans (congrArg some (by kernel_rfl))
  f160 := Tryz.func30.trans (congrArg some (by kernel_rfl))
  f197 := Tryz.func87.trans (congrArg some (by kernel_rfl))
  f217 := Tryz.func182.trans (congrArg some (by kernel_rfl))
  f224 := Tryz.func163.trans (congrArg some (by kernel_rfl))
  f225 := Tryz.func164.trans (congrArg some (by kernel_rfl))
  f227 := Tryz.func59.trans (congrArg some (by kernel_rfl))
  f228 := Tryz.func86.trans (congrArg some (by kernel_rfl))
  f231 := Tryz.func57.trans (congrArg some (by kernel_rfl))
  f232 := Tryz.func58.trans (congrArg some (by kernel_rfl))
  f233 := Tryz.func60.trans (congrArg some (by kernel_rfl))
  f234 := Tryz.func61.trans (congrArg some (by kernel_rfl))
  f235 := Tryz.func62.trans (congrArg some (by kernel_rfl))
  f236 := Tryz.func63.trans (congrArg some (by kernel_rfl))
  f260 := Tryz.func116.trans (congrArg some (by kernel_rfl))
  f266 := Tryz.func189.trans (congrArg some (by kernel_rfl))
  f271 := Tryz.func89.trans (congrArg some (by kernel_rfl))
  t0 := Tryz.underlying0
  a0 := Tryz.isAgg0
  z0 := Tryz.sizeOf0
  v0 := Tryz.zeroValue0
  t3 := Tryz.underlying3
  a3 := Tryz.isAgg3
  z3 := Tryz.sizeOf3
  v3 := Tryz.zeroValue3
  t4 := Tryz.underlying4
  a4 := Tryz.isAgg4
  z4 := Tryz.sizeOf4
  v4 := Tryz.zeroValue4
  t5 := Tryz.underlying5
  a5 := Tryz.isAgg5
  z5 := Tryz.sizeOf5
  v5 := Tryz.zeroValue5
  t9 := Tryz.underlying9
  a9 := Tryz.isAgg9
  z9 := Tryz.sizeOf9
  v9 := Tryz.zeroValue9
  t21 := Tryz.underlying21
  a21 := Tryz.isAgg21
  z21 := Tryz.sizeOf21
  v21 := Tryz.zeroValue21
  t46 := Tryz.underlying97
  a46 := Tryz.isAgg97
  z46 := Tryz.sizeOf97
  v46 := Tryz.zeroValue97
  t105 := Tryz.underlying132
  a105 := Tryz.isAgg132
  z105 := Tryz.sizeOf132
  v105 := Tryz.zeroValue132
  t116 := Tryz.underlying105
  a116 := Tryz.isAgg105
  z116 := Tryz.sizeOf105
  t117 := Tryz.underlying106
  a117 := Tryz.isAgg106
  z117 := Tryz.sizeOf106
  v117 := Tryz.zeroValue106
  t119 := Tryz.underlying197
  a119 := Tryz.isAgg197
  z119 := Tryz.sizeOf197
  t124 := Tryz.underlying109
  a124 := Tryz.isAgg109
  z124 := Tryz.sizeOf109
  v124 := Tryz.zeroValue109
  t138 := Tryz.underlying199
  a138 := Tryz.isAgg199
  z138 := Tryz.sizeOf199
  v138 := Tryz.zeroValue199
  t139 := Tryz.underlying200
  a139 := Tryz.isAgg200
  z139 := Tryz.sizeOf200
  v139 := Tryz.zeroValue200
  g3 := by kernel_rfl
  g4 := by kernel_rfl }
def Tryz.laysGw17_ren : Go.Shelf.Ren := ⟨fun | 17 => 31 | 15 => 64 | 20 => 90 | n => n, fun | 9 => 9 | 23 => 72 | 4 => 4 | 3 => 3 | 0 => 0 | 21 => 21 | n => n, fun | n => n⟩
theorem Tryz.laysGw17 : Go.Proofs.LaysGw.n17 Tryz.prog Tryz.laysGw17_ren := {
  mixed := by kernel_rfl
  f15 := Tryz.func64.trans (congrArg some (by kernel_rfl))
  f17 := Tryz.func31.trans (congrArg some (by kernel_rfl))
  f20 := Tryz.func90.trans (congrArg some (by kernel_rfl))
  t0 := Tryz.underlying0
  a0 := Tryz.isAgg0
  z0 := Tryz.sizeOf0
  v0 := Tryz.zeroValue0
  i0 := by kernel_rfl
  t3 := Tryz.underlying3
  a3 := Tryz.isAgg3
  z3 := Tryz.sizeOf3
  v3 := Tryz.zeroValue3
  i3 := by kernel_rfl
  t4 := Tryz.underlying4
  a4 := Tryz.isAgg4
  z4 := Tryz.sizeOf4
  v4 := Tryz.zeroValue4
  i4 := by kernel_rfl
  t9 := Tryz.underlying9
  a9 := Tryz.isAgg9
  z9 := Tryz.sizeOf9
  v9 := Tryz.zeroValue9
  i9 := by kernel_rfl
  t21 := Tryz.underlying21
  a21 := Tryz.isAgg21
  z21 := Tryz.sizeOf21
  v21 := Tryz.zeroValue21
  i21 := by kernel_rfl
  t23 := Tryz.underlying72
  a23 := Tryz.isAgg72
  z23 := Tryz.sizeOf72
  v23 := Tryz.zeroValue72
  i23 := by kernel_rfl }
open Go.RowKit Go.Lib in
theorem Tryz.strings_ContainsFunc_grows (g : Nat) (lb : Array Value) (eg : ∀ args w, (callFunc g args).run Tryz.prog w = .ok (.enter g args) w) (p : Nat → Bool) (s : ByteArray) (w : World) (hp : PredGrows Tryz.prog g lb p w) :
    Calls Tryz.prog 31 #[.string s, .func (.func g) #[] lb] w fun e w' => e = .returned (.bool (decide (0 ≤ Lib.idxFunc p true s))) ∧ Below w.heap.size w w' := Any.strings_ContainsFunc_grows Tryz.laysGw17 g lb eg p s w hp
end Go.Proofs

/-
  What the reference's Name returns (a text's bytes are all letters and digits: strings.Trim, strings.ContainsFunc). Conditions: a text that fits in memory.
-/
namespace Go.Proofs.YtbeigaanlhaolaaGreatDoor
open Go.RowKit
open Go.Proofs
open WoolBag
open WoolVol

def nmP (x : Nat) : Bool := (decide (x < 48) || (decide (57 < x) && decide (x < 97))) || decide (122 < x)

theorem nmP_byte (c : UInt8) : nmP c.toNat = !(nbB c) := by
  unfold nmP nbB
  generalize c.toNat = z
  rw [Bool.eq_iff_iff]
  simp
  omega

theorem refName1_any (x : Nat) (w : World) (hx : x ≤ 1114111) : Calls Tryz.prog 32 #[.int .i32 (x : Int)] w fun e w' => e = .returned (.bool (nmP x)) ∧ w = w' := by
  by_cases h1 : x < 48
  · have e : nmP x = true := by unfold nmP; simp; omega
    rw [e]
    clear e
    go_enter Tryz.func32, Tryz.ntmps32
    go_wp2
    go_ret
    exact ⟨by first | rfl | (simp; done) | (simp; omega), rfl⟩
  by_cases h2 : 57 < x
  · by_cases h3 : x < 97
    · have e : nmP x = true := by unfold nmP; simp; omega
      rw [e]
      clear e
      go_enter Tryz.func32, Tryz.ntmps32
      go_wp2
      go_ret
      exact ⟨by first | rfl | (simp; done) | (simp; omega), rfl⟩
    · by_cases h4 : 122 < x
      · have e : nmP x = true := by unfold nmP; simp; omega
        rw [e]
        clear e
        go_enter Tryz.func32, Tryz.ntmps32
        go_wp2
        go_ret
        exact ⟨by first | rfl | (simp; done) | (simp; omega), rfl⟩
      · have e : nmP x = false := by unfold nmP; simp; omega
        rw [e]
        clear e
        go_enter Tryz.func32, Tryz.ntmps32
        go_wp2
        go_ret
        exact ⟨by first | rfl | (simp; done) | (simp; omega), rfl⟩
  · have e : nmP x = false := by unfold nmP; simp; omega
    rw [e]
    clear e
    go_enter Tryz.func32, Tryz.ntmps32
    go_wp2
    go_ret
    exact ⟨by first | rfl | (simp; done) | (simp; omega), rfl⟩

/-- the letters and digits -/
def alnum : List UInt8 := [97, 98, 99, 100, 101, 102, 103, 104, 105, 106, 107, 108, 109, 110, 111, 112, 113, 114, 115, 116, 117, 118, 119, 120, 121, 122, 48, 49, 50, 51, 52, 53, 54, 55, 56, 57]

set_option maxRecDepth 100000 in
theorem alnum_all : ∀ n, n < 256 → alnum.contains (UInt8.ofNat n) = nbB (UInt8.ofNat n) := by decide

theorem alnum_has (c : UInt8) : alnum.contains c = nbB c := by
  have h := alnum_all c.toNat (UInt8.toNat_lt c)
  rwa [UInt8.ofNat_toNat] at h

theorem dw_nil {p : UInt8 → Bool} : ∀ {l : List UInt8}, (∀ x ∈ l.dropWhile p, p x = true) → ∀ x ∈ l, p x = true
  | [], _ => by simp
  | a :: r, h => by
    rw [List.dropWhile_cons] at h
    by_cases ha : p a = true
    · rw [if_pos ha] at h
      intro x hx
      rcases List.mem_cons.1 hx with rfl | hx
      · exact ha
      · exact dw_nil h x hx
    · rw [if_neg ha] at h
      exact absurd (h a (by simp)) ha

theorem dw_all {p : UInt8 → Bool} : ∀ {l : List UInt8}, (∀ x ∈ l, p x = true) → l.dropWhile p = []
  | [], _ => rfl
  | a :: r, h => by
    rw [List.dropWhile_cons, if_pos (h a (by simp))]
    exact dw_all (fun x hx => h x (by simp [hx]))

theorem trim_nil {s : List UInt8} : Lib.trimS s alnum = [] ↔ s.all nbB = true := by
  unfold Lib.trimS Lib.trimLeftS Lib.trimRightS
  rw [List.all_eq_true]
  constructor
  · intro h
    have h1 : ∀ x ∈ (s.reverse.dropWhile (alnum.contains ·)).reverse, alnum.contains x = true := by
      generalize (s.reverse.dropWhile (alnum.contains ·)).reverse = L at h
      intro x hx
      have : L.dropWhile (alnum.contains ·) = [] := h
      exact dw_nil (p := (alnum.contains ·)) (by rw [this]; simp) x hx
    intro x hx
    rw [← alnum_has]
    exact dw_nil (p := (alnum.contains ·)) (l := s.reverse) (fun y hy => h1 y (by simpa using hy)) x (by simpa using hx)
  · intro h
    have h2 : s.reverse.dropWhile (alnum.contains ·) = [] := by
      refine dw_all (fun x hx => ?_)
      show alnum.contains x = true
      rw [alnum_has]
      exact h x (by simpa using hx)
    rw [h2]; rfl

theorem idx_all (s : List UInt8) (h : s.all nbB = true) : ∀ (f pos : Nat), Lib.idxFuncFrom nmP true (bs s) f pos = -1
  | 0, _ => rfl
  | f + 1, pos => by
    unfold Lib.idxFuncFrom
    split
    · rename_i hp
      have hp' : pos < s.length := by rw [bs_size] at hp; exact hp
      have hb : (bs s)[pos]'hp = s[pos] := by simp [bs, ByteArray.getElem_eq_getElem_data]
      have hn : nbB s[pos] = true := by rw [List.all_eq_true] at h; exact h _ (List.getElem_mem hp')
      have hlt : s[pos].toNat < 128 := by
        unfold nbB at hn
        simp at hn
        omega
      rw [decode_ascii (bs s) pos hp (by rw [hb]; exact hlt), hb]
      simp only
      rw [nmP_byte, hn]
      simp only [Bool.not_true, Bool.false_eq_true, if_false]
      exact idx_all s h f _
    · rfl

theorem i116 : (Tryz.prog.info? 105).map (fun i => (i.zero, i.size)) = some (some (.agg (Array.replicate 256 (.bool false))), 256) := by kernel_rfl

theorem alnum_ascii : ∀ (j : Nat) b, (bs alnum).data.toList[j]? = some b → b.toNat < 128 := by
  rw [bs_list]
  exact ascii_of_all (by decide)

set_option maxRecDepth 100000 in
theorem refTrim (s : List UInt8) (w : World) (hs : s.length ≤ 9223372036854775807) : Calls Tryz.prog 30 #[.string (bs s), .string (bs alnum)] w fun e w' => e = .returned (.string (bs (Lib.trimS s alnum))) ∧ Up w w' := by
  have h := Any.strings_Trim_laid Tryz.lays160 i116 (bs s) (bs alnum) w (by rw [bs_size]; omega) (by decide) alnum_ascii
  rw [bs_list, bs_list] at h
  exact h

set_option maxRecDepth 100000 in
theorem refCont (s : List UInt8) (w : World) (hs : s.all nbB = true) : Calls Tryz.prog 31 #[.string (bs s), .func (.func 32) #[] #[]] w fun e w' => e = .returned (.bool false) ∧ Up w w' := by
  have h := Tryz.strings_ContainsFunc_grows 32 #[] (enters_of Tryz.func32 (by kernel_rfl) rfl) nmP (bs s) w (fun W x hx _ => by
    refine (refName1_any x W hx).mono ?_
    rintro e w' ⟨rfl, rfl⟩
    exact ⟨rfl, Below.refl _ _⟩)
  have e : Lib.idxFunc nmP true (bs s) = -1 := idx_all s hs _ _
  rw [e] at h
  exact h

set_option maxRecDepth 100000 in
set_option maxHeartbeats 400000 in
theorem refName_any (s : List UInt8) (w : World) (hs : s.length ≤ 9223372036854775807) : Calls Tryz.prog 16 #[.string (bs s)] w fun e w' => e = .returned (.bool (nameB s)) ∧ Up w w' := by
  have hsz := bs_size s
  obtain ⟨E, hE⟩ : ∃ E, nameB s = E := ⟨_, rfl⟩
  rw [hE]
  unfold nameB at hE
  have HT := Lib.hid (fun W => refTrim s W hs)
  have HC := Lib.hid (fun (h : s.all nbB = true) W => refCont s W h)
  have hal : bs alnum = ⟨#[97, 98, 99, 100, 101, 102, 103, 104, 105, 106, 107, 108, 109, 110, 111, 112, 113, 114, 115, 116, 117, 118, 119, 120, 121, 122, 48, 49, 50, 51, 52, 53, 54, 55, 56, 57]⟩ := rfl
  rw [hal] at HT
  have HE := Lib.hid hE
  obtain ⟨n, hn⟩ : ∃ n, s.length = n := ⟨_, rfl⟩
  have HN := Lib.hid hn
  rw [hn] at hsz hs
  clear hn hE hal
  by_cases h1 : n < 1
  · have HE2 : Hid (E = false) := by
      rw [← HE.out, HN.out]; show _ = _; simp; omega
    go_enter Tryz.func16, Tryz.ntmps16
    go_wp2_with fail
    go_ret
    exact ⟨by rw [HE2.out]; rfl, Up.refl _⟩
  by_cases h2 : 12 < n
  · have HE2 : Hid (E = false) := by
      rw [← HE.out, HN.out]; show _ = _; simp; omega
    go_enter Tryz.func16, Tryz.ntmps16
    go_wp2_with fail
    go_ret
    exact ⟨by rw [HE2.out]; rfl, Up.refl _⟩
  have HE2 : Hid (E = s.all nbB) := by
    rw [← HE.out, HN.out]; show _ = _
    rw [decide_eq_true (by omega), decide_eq_true (by omega)]; simp
  clear HE
  cases ha : s.all nbB with
  | true =>
    have ht : Lib.trimS s alnum = [] := trim_nil.2 ha
    have hbe : bs [] = ⟨#[]⟩ := rfl
    rw [ht, hbe] at HT
    have HE3 : Hid (E = true) := by rw [HE2.out]; exact ha
    have HC2 := Lib.hid (HC.out ha)
    clear HE2 HC ha ht hbe
    go_enter Tryz.func16, Tryz.ntmps16
    go_wp2_with fail
    refine (HT.out _).mono ?_
    rintro e w1 ⟨rfl, u1⟩
    have HU1 := Lib.hid u1
    clear u1
    go_wp2_with fail
    refine (HC2.out _).mono ?_
    rintro e w2 ⟨rfl, u2⟩
    have HU2 := Lib.hid (HU1.out.trans u2)
    clear u2
    go_wp2_with fail
    go_ret
    exact ⟨by rw [HE3.out]; rfl, HU2.out⟩
  | false =>
    have ht : Lib.trimS s alnum ≠ [] := fun e => by rw [trim_nil.1 e] at ha; cases ha
    have HE3 : Hid (E = false) := by rw [HE2.out]; exact ha
    have hne := not_empty (Lib.trimS s alnum) (List.length_pos_iff.2 ht)
    generalize Lib.trimS s alnum = T at *
    clear HE2 HC ha ht
    go_enter Tryz.func16, Tryz.ntmps16
    go_wp2_with fail
    refine (HT.out _).mono ?_
    rintro e w1 ⟨rfl, u1⟩
    have HU1 := Lib.hid u1
    clear u1
    go_wp2_with fail
    go_ret
    exact ⟨by rw [HE3.out]; rfl, HU1.out⟩

end Go.Proofs.YtbeigaanlhaolaaGreatDoor

/-
  What the reference's within returns, for every three ints. No condition.
-/
namespace Go.Proofs.YtbeigaanlhaolaaGreatDoor
open Go.RowKit
open Go.Proofs

theorem refWithin_yes (x a b : Int) (w : World) (h1 : a ≤ x) (h2 : x ≤ b) :
    Calls Tryz.prog 15 #[.int .i64 x, .int .i64 a, .int .i64 b] w fun e w' => e = .returned (.bool true) ∧ w = w' := by
  have d1 : decide (a ≤ x) = true := by rw [decide_eq_true_iff]; omega
  have d2 : decide (x ≤ b) = true := by rw [decide_eq_true_iff]; omega
  go_enter Tryz.func15, Tryz.ntmps15
  go_wp2
  go_ret
  exact ⟨rfl, rfl⟩

theorem refWithin_no (x a b : Int) (w : World) (h : x < a ∨ b < x) :
    Calls Tryz.prog 15 #[.int .i64 x, .int .i64 a, .int .i64 b] w fun e w' => e = .returned (.bool false) ∧ w = w' := by
  by_cases h1 : a ≤ x
  · have d1 : decide (a ≤ x) = true := by rw [decide_eq_true_iff]; omega
    have d2 : decide (x ≤ b) = false := by rw [decide_eq_false_iff_not]; omega
    clear h
    go_enter Tryz.func15, Tryz.ntmps15
    go_wp2
    go_ret
    exact ⟨rfl, rfl⟩
  · have d1 : decide (a ≤ x) = false := by rw [decide_eq_false_iff_not]; omega
    clear h
    go_enter Tryz.func15, Tryz.ntmps15
    go_wp2
    go_ret
    exact ⟨rfl, rfl⟩

end Go.Proofs.YtbeigaanlhaolaaGreatDoor

/-
  What the reference's Deed returns. Conditions: a deed that a call can be handed.
-/
namespace Go.Proofs.YtbeigaanlhaolaaGreatDoor
open Go.RowKit
open Go.Proofs
open WoolBag
open WoolVol

set_option maxRecDepth 100000 in
set_option maxHeartbeats 4000000 in
theorem refDeed_any (o : Opn) (w : World) (ho : OpWf o) : Calls Tryz.prog 5 #[opA o] w fun e w' => e = .returned (.int .i64 (chkO o)) ∧ Up w w' := by
  have HN := Lib.hid (fun W => refName_any o.nm W ho.2.1)
  have HT := Lib.hid (fun W => refName_any o.to W ho.2.2.1)
  have hsz := bs_size o.tx
  have hl := ho.2.2.2.2
  obtain ⟨R, hR⟩ : ∃ R, chkO o = R := ⟨_, rfl⟩
  rw [hR]
  rw [chk_un] at hR
  clear ho
  unfold opA at *
  obtain ⟨kd, nm, ot, pl, tx⟩ := o
  unfold unB at hR
  simp only at *
  have e1 := bs_isEmpty ot
  have e2 := bs_isEmpty tx
  have n1 : ∀ S : ByteArray, S.toList.isEmpty = true → S.toList = [] := fun S h => by simpa using h
  generalize ot.isEmpty = b1 at *
  generalize tx.isEmpty = b2 at *
  generalize nameB nm = NB at *
  generalize nameB ot = TB at *
  generalize tx.length = L at *
  generalize bs nm = N at *
  generalize bs ot = S at *
  generalize bs tx = T at *
  have HE1 := Lib.hid e1
  have HE2 := Lib.hid e2
  have HN1 := Lib.hid n1
  have HR := Lib.hid hR
  have HSZ := Lib.hid hsz
  clear e1 e2 n1 hR hsz
  have HA : Hid (RowC (w.alloc (.cells #[.int .i64 kd, .string N, .string S, .int .i64 pl, .string T] 27)) w.heap.size 27 [.int .i64 kd, .string N, .string S, .int .i64 pl, .string T]) := heap_alloc_new w _
  have HU : Hid (Up w (w.alloc (.cells #[.int .i64 kd, .string N, .string S, .int .i64 pl, .string T] 27))) := Up.alloc _ _
  go_enter Tryz.func5, Tryz.ntmps5
  go_upto_region 1 with (fail)
  generalize w.alloc (.cells #[.int .i64 kd, .string N, .string S, .int .i64 pl, .string T] 27) = W0 at HA HU ⊢
  generalize w.heap.size = B at HA ⊢
  have q0 := HA.out.cell (j := 0) rfl
  have q1 := HA.out.cell (j := 1) rfl
  have q2 := HA.out.cell (j := 2) rfl
  have q3 := HA.out.cell (j := 3) rfl
  have q4 := HA.out.cell (j := 4) rfl
  by_cases h1 : kd < 1 ∨ 5 < kd
  · have HV : Hid (R = 1) := by show _ = _; rw [← HR.out, if_pos h1]
    go_wp2_with fail
    refine (refWithin_no _ _ _ _ h1).mono ?_
    rintro e wx ⟨rfl, rfl⟩
    go_wp2_with fail
    go_ret
    exact ⟨by have h9 := HV.out; subst h9; rfl, HU.out⟩
  have HR2 := Lib.hid HR.out
  rw [if_neg h1] at HR2
  clear HR
  go_wp2_with fail
  refine (refWithin_yes _ _ _ _ (by omega) (by omega)).mono ?_
  rintro e wx ⟨rfl, rfl⟩
  go_wp2_with fail
  refine (HN.out _).mono ?_
  rintro e w1 ⟨rfl, u1⟩
  replace HA := Lib.hid (HA.out.up u1)
  replace HU := Lib.hid (HU.out.trans u1)
  clear u1
  clear q0 q1 q2 q3 q4
  cases NB with
  | false =>
    have HV : Hid (R = 3) := by show _ = _; rw [← HR2.out, if_pos (.inl rfl)]
    go_wp2_with fail
    go_ret
    exact ⟨by have h9 := HV.out; subst h9; rfl, HU.out⟩
  | true =>
    by_cases h5 : kd = 5
    · subst h5
      have q0 := HA.out.cell (j := 0) rfl
      have q2 := HA.out.cell (j := 2) rfl
      go_wp2_with fail
      refine (HT.out _).mono ?_
      rintro e w2 ⟨rfl, u1⟩
      replace HA := Lib.hid (HA.out.up u1)
      replace HU := Lib.hid (HU.out.trans u1)
      clear u1
      clear q0 q2
      cases TB with
      | false =>
        have HV : Hid (R = 3) := by show _ = _; rw [← HR2.out, if_pos (by simp)]
        go_wp2_with fail
        go_ret
        exact ⟨by have h9 := HV.out; subst h9; rfl, HU.out⟩
      | true =>
        have HR3 := Lib.hid HR2.out
        rw [if_neg (by simp)] at HR3
        clear HR2
        have q0 := HA.out.cell (j := 0) rfl
        have q2 := HA.out.cell (j := 2) rfl
        have q3 := HA.out.cell (j := 3) rfl
        have q4 := HA.out.cell (j := 4) rfl
        by_cases h6 : pl < 0 ∨ 32 < pl
        · have HV : Hid (R = 1) := by show _ = _; rw [← HR3.out, if_pos h6]
          go_wp2_with fail
          refine (refWithin_no _ _ _ _ h6).mono ?_
          rintro e wx ⟨rfl, rfl⟩
          go_wp2_with fail
          go_ret
          exact ⟨by have h9 := HV.out; subst h9; rfl, HU.out⟩
        go_wp2_with fail
        refine (refWithin_yes _ _ _ _ (by omega) (by omega)).mono ?_
        rintro e wx ⟨rfl, rfl⟩
        rw [if_neg h6] at HR3
        have hsz := HSZ.out
        by_cases h7 : 64 < L
        · have HV : Hid (R = 2) := by show _ = _; rw [← HR3.out, if_pos h7]
          have d7 : decide (64 < (L : Int)) = true := decide_eq_true (by omega)
          go_wp2_with fail
          go_ret
          exact ⟨by have h9 := HV.out; subst h9; rfl, HU.out⟩
        rw [if_neg h7] at HR3
        have d7 : decide (64 < (L : Int)) = false := decide_eq_false (by omega)
        have hR := HR3.out
        have e1 := HE1.out
        have e2 := HE2.out
        clear h7 h6 HR3 HN HT
        cases b1 <;> cases b2
        · have n1 := 0
          go_wp2_with fail
          all_goals (go_ret; refine ⟨?_, HU.out⟩; clear HU HA; subst hR; first | (simp; done) | (simp; omega) | (simp_all; done) | (simp_all; omega))
        · have f2 := HN1.out T e2
          go_wp2_with fail
          all_goals (go_ret; refine ⟨?_, HU.out⟩; clear HU HA; subst hR; first | (simp; done) | (simp; omega) | (simp_all; done) | (simp_all; omega))
        · have f1 := HN1.out S e1
          go_wp2_with fail
          all_goals (go_ret; refine ⟨?_, HU.out⟩; clear HU HA; subst hR; first | (simp; done) | (simp; omega) | (simp_all; done) | (simp_all; omega))
        · have f1 := HN1.out S e1; have f2 := HN1.out T e2
          go_wp2_with fail
          all_goals (go_ret; refine ⟨?_, HU.out⟩; clear HU HA; subst hR; first | (simp; done) | (simp; omega) | (simp_all; done) | (simp_all; omega))
    · have k5 : (kd == 5) = false := by simp [h5]
      have HR3 := Lib.hid HR2.out
      rw [if_neg (by simp [h5])] at HR3
      clear HR2
      have q0 := HA.out.cell (j := 0) rfl
      have q2 := HA.out.cell (j := 2) rfl
      have q3 := HA.out.cell (j := 3) rfl
      have q4 := HA.out.cell (j := 4) rfl
      by_cases h6 : pl < 0 ∨ 32 < pl
      · have HV : Hid (R = 1) := by show _ = _; rw [← HR3.out, if_pos h6]
        go_wp2_with fail
        refine (refWithin_no _ _ _ _ h6).mono ?_
        rintro e wx ⟨rfl, rfl⟩
        go_wp2_with fail
        go_ret
        exact ⟨by have h9 := HV.out; subst h9; rfl, HU.out⟩
      go_wp2_with fail
      refine (refWithin_yes _ _ _ _ (by omega) (by omega)).mono ?_
      rintro e wx ⟨rfl, rfl⟩
      rw [if_neg h6] at HR3
      have hsz := HSZ.out
      by_cases h7 : 64 < L
      · have HV : Hid (R = 2) := by show _ = _; rw [← HR3.out, if_pos h7]
        have d7 : decide (64 < (L : Int)) = true := decide_eq_true (by omega)
        go_wp2_with fail
        go_ret
        exact ⟨by have h9 := HV.out; subst h9; rfl, HU.out⟩
      rw [if_neg h7] at HR3
      have d7 : decide (64 < (L : Int)) = false := decide_eq_false (by omega)
      have hR := HR3.out
      have e1 := HE1.out
      have e2 := HE2.out
      clear h7 h6 HR3 HN HT
      cases b1 <;> cases b2
      · have n1 := 0
        go_wp2_with fail
        all_goals (go_ret; refine ⟨?_, HU.out⟩; clear HU HA; subst hR; first | (simp; done) | (simp; omega) | (simp_all; done) | (simp_all; omega))
      · have f2 := HN1.out T e2
        go_wp2_with fail
        all_goals (go_ret; refine ⟨?_, HU.out⟩; clear HU HA; subst hR; first | (simp; done) | (simp; omega) | (simp_all; done) | (simp_all; omega))
      · have f1 := HN1.out S e1
        go_wp2_with fail
        all_goals (go_ret; refine ⟨?_, HU.out⟩; clear HU HA; subst hR; first | (simp; done) | (simp; omega) | (simp_all; done) | (simp_all; omega))
      · have f1 := HN1.out S e1; have f2 := HN1.out T e2
        go_wp2_with fail
        all_goals (go_ret; refine ⟨?_, HU.out⟩; clear HU HA; subst hR; first | (simp; done) | (simp; omega) | (simp_all; done) | (simp_all; omega))

end Go.Proofs.YtbeigaanlhaolaaGreatDoor
