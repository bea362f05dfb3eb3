/-
  What the reference's Body returns. Conditions: a right deed.
-/
import Derived.Test.YtbeigaanlhaolaaDoorLogB
import Derived.Test.YtbeigaanlhaolaaDoorRefFour
import Derived.Deep.DeepCutAuto
namespace Go.Proofs.YtbeigaanlhaolaaDoor
open Go.RowKit
open Go.Proofs
open WoolBag
open WoolVol

def BodyRel (w : World) (A0 A1 A2 A3 : ByteArray) (out i : Value) (wr : World) : Prop :=
  Up w wr ∧ ((i = .int .i64 0 ∧ out = .string A0) ∨ (i = .int .i64 1 ∧ out = .string A1) ∨ (i = .int .i64 2 ∧ out = .string A2) ∨ (i = .int .i64 3 ∧ out = .string A3))

theorem nb4_last (n : Nat) : (nb n 4).drop 3 = [UInt8.ofNat n] := by
  rw [nb4]
  rfl

set_option maxRecDepth 100000 in
set_option maxHeartbeats 2000000 in
theorem refBody_any (o : Opn) (w : World) (hc : chkO o = 0) : Calls Tryd.prog 7 #[opA o] w fun e w' => e = .returned (.string (bs (encO o))) ∧ Up w w' := by
  obtain ⟨k1, k2, k3, _, k5, k6, k7, _⟩ := chkO_ok hc
  have kn := nameB_len k3
  have kt := chkO_to hc
  obtain ⟨kd, nm, ot, pl, tx⟩ := o
  unfold opA
  simp only at k1 k2 k5 k6 k7 kn kt ⊢
  obtain ⟨c, hcc, hci, hcn⟩ := byte_at kd.toNat (by omega)
  obtain ⟨d, hd, hdi, hdn⟩ := byte_at pl.toNat (by omega)
  have hw1 : IntKind.u8.wrap kd = ((c.toNat : Nat) : Int) := by rw [hci, IntWalk.u8_in _ (by omega)]; omega
  have hw2 : IntKind.u8.wrap pl = ((d.toNat : Nat) : Int) := by rw [hdi, IntWalk.u8_in _ (by omega)]; omega
  have hconv := conv_two c d
  have he : encO ⟨kd, nm, ot, pl, tx⟩ = (([c, d] ++ lenT nm) ++ lenT ot) ++ lenT tx := by
    unfold encO
    simp only
    rw [← hcc, ← hd]
    simp
  have l1 : (lenT nm).length = nm.length + 1 := rfl
  have l2 : (lenT ot).length = ot.length + 1 := rfl
  have l3 : (lenT tx).length = tx.length + 1 := rfl
  have ha1 : ∀ v : World, (Op.stringOp .add ⟨#[c, d]⟩ (bs (lenT nm))).run Tryd.prog v = .ok (.string (bs ([c, d] ++ lenT nm))) v := add_bs [c, d] (lenT nm) (by simp; omega)
  have ha2 := add_bs ([c, d] ++ lenT nm) (lenT ot) (by simp; omega)
  have ha3 := add_bs (([c, d] ++ lenT nm) ++ lenT ot) (lenT tx) (by simp; omega)
  rw [← he] at ha3
  have hb1 : ∀ v : World, (Op.stringOp .add (bs [UInt8.ofNat nm.length]) (bs nm)).run Tryd.prog v = .ok (.string (bs (lenT nm))) v := add_bs [UInt8.ofNat nm.length] nm (by simp; omega)
  have hs1 := from_bs (nb nm.length 4) 3 3 rfl (by rw [nb_length]; omega)
  rw [nb4_last] at hs1
  have HF1 := Lib.hid (fun W => four_any nm.length W (by omega))
  have hz1 := bs_size nm
  have hb2 : ∀ v : World, (Op.stringOp .add (bs [UInt8.ofNat ot.length]) (bs ot)).run Tryd.prog v = .ok (.string (bs (lenT ot))) v := add_bs [UInt8.ofNat ot.length] ot (by simp; omega)
  have hs2 := from_bs (nb ot.length 4) 3 3 rfl (by rw [nb_length]; omega)
  rw [nb4_last] at hs2
  have HF2 := Lib.hid (fun W => four_any ot.length W (by omega))
  have hz2 := bs_size ot
  have hb3 : ∀ v : World, (Op.stringOp .add (bs [UInt8.ofNat tx.length]) (bs tx)).run Tryd.prog v = .ok (.string (bs (lenT tx))) v := add_bs [UInt8.ofNat tx.length] tx (by simp; omega)
  have hs3 := from_bs (nb tx.length 4) 3 3 rfl (by rw [nb_length]; omega)
  rw [nb4_last] at hs3
  have HF3 := Lib.hid (fun W => four_any tx.length W (by omega))
  have hz3 := bs_size tx
  clear k1 k2 k3 k5 k6 k7 kn kt hcc hci hcn hd hdi hdn he l1 l2 l3 hc
  generalize bs (nb nm.length 4) = F1 at *
  generalize bs [UInt8.ofNat nm.length] = L1 at *
  generalize nm.length = n1 at *
  generalize bs (nb ot.length 4) = F2 at *
  generalize bs [UInt8.ofNat ot.length] = L2 at *
  generalize ot.length = n2 at *
  generalize bs (nb tx.length 4) = F3 at *
  generalize bs [UInt8.ofNat tx.length] = L3 at *
  generalize tx.length = n3 at *
  generalize bs (encO ⟨kd, nm, ot, pl, tx⟩) = R3 at *
  generalize bs ([c, d] ++ lenT nm ++ lenT ot) = R2 at *
  generalize bs ([c, d] ++ lenT nm) = R1 at *
  generalize bs (lenT nm) = T1 at *
  generalize bs (lenT ot) = T2 at *
  generalize bs (lenT tx) = T3 at *
  generalize bs nm = N at *
  generalize bs ot = O at *
  generalize bs tx = T at *
  have HO : Hid (RowC (w.alloc (.cells #[.int .i64 kd, .string N, .string O, .int .i64 pl, .string T] 23)) w.heap.size 23 [.int .i64 kd, .string N, .string O, .int .i64 pl, .string T]) := heap_alloc_new w _
  have HU := Lib.hid (Up.alloc w (.cells #[.int .i64 kd, .string N, .string O, .int .i64 pl, .string T] 23))
  go_enter Tryd.func7, Tryd.ntmps7
  go_upto_region 1 with (fail)
  generalize w.alloc (.cells #[.int .i64 kd, .string N, .string O, .int .i64 pl, .string T] 23) = W0 at HO HU ⊢
  generalize w.heap.size = X at HO ⊢
  have q0 := HO.out.cell (j := 0) rfl
  have q3 := HO.out.cell (j := 3) rfl
  go_upto_region 2 with (fail)
  have HUB := Lib.hid (Up.alloc W0 (.cells #[.int .u8 ((c.toNat : Nat) : Int), .int .u8 ((d.toNat : Nat) : Int)] 5))
  generalize W0.alloc (.cells #[.int .u8 ((c.toNat : Nat) : Int), .int .u8 ((d.toNat : Nat) : Int)] 5) = W1 at HUB ⊢
  clear q0 q3
  have q1 := (HO.out.up HUB.out).cell (j := 1) rfl
  have q2 := (HO.out.up HUB.out).cell (j := 2) rfl
  have q4 := (HO.out.up HUB.out).cell (j := 4) rfl
  go_upto_region 3 with (fail)
  have HB : Hid (RowC (W1.alloc (.cells #[.string N, .string O, .string T] 9)) W1.heap.size 9 [.string N, .string O, .string T]) := heap_alloc_new W1 _
  have HU3 := Lib.hid ((HU.out.trans HUB.out).trans (Up.alloc W1 (.cells #[.string N, .string O, .string T] 9)))
  clear q1 q2 q4
  generalize W1.alloc (.cells #[.string N, .string O, .string T] 9) = W3 at HB HU3 ⊢
  generalize W1.heap.size = B at HB ⊢
  go_loopw [3, 22] (fun out i wr => BodyRel W3 ⟨#[c, d]⟩ R1 R2 R3 out i wr) (fun _ i _ => 3 - (intOf i).toNat)
  case atStart => exact ⟨Up.refl _, .inl ⟨rfl, rfl⟩⟩
  case round =>
    obtain ⟨hu, ⟨rfl, rfl⟩ | ⟨rfl, rfl⟩ | ⟨rfl, rfl⟩ | ⟨rfl, rfl⟩⟩ := hrel
    · have p := (HB.out.up hu).cell (j := 0) rfl
      have HUR := Lib.hid hu
      clear hu
      go_wp2_with fail
      refine (HF1.out _).mono ?_
      rintro e w1 ⟨rfl, u1⟩
      have HUR1 := Lib.hid (HUR.out.trans u1)
      clear u1
      go_wp2_with fail
      go_roundw
      case rel => exact ⟨HUR1.out, .inr (.inl ⟨rfl, rfl⟩)⟩
      case measure => simp only [intOf]; omega
    · have p := (HB.out.up hu).cell (j := 1) rfl
      have HUR := Lib.hid hu
      clear hu
      go_wp2_with fail
      refine (HF2.out _).mono ?_
      rintro e w1 ⟨rfl, u1⟩
      have HUR1 := Lib.hid (HUR.out.trans u1)
      clear u1
      go_wp2_with fail
      go_roundw
      case rel => exact ⟨HUR1.out, .inr (.inr (.inl ⟨rfl, rfl⟩))⟩
      case measure => simp only [intOf]; omega
    · have p := (HB.out.up hu).cell (j := 2) rfl
      have HUR := Lib.hid hu
      clear hu
      go_wp2_with fail
      refine (HF3.out _).mono ?_
      rintro e w1 ⟨rfl, u1⟩
      have HUR1 := Lib.hid (HUR.out.trans u1)
      clear u1
      go_wp2_with fail
      go_roundw
      case rel => exact ⟨HUR1.out, .inr (.inr (.inr ⟨rfl, rfl⟩))⟩
      case measure => simp only [intOf]; omega
    · have HUR := Lib.hid (HU3.out.trans hu)
      clear hu
      go_wp2_with fail
      go_ret
      exact ⟨rfl, HUR.out⟩

end Go.Proofs.YtbeigaanlhaolaaDoor
