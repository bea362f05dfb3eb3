/-
  What hasId, hasText, isBehind (makers of predicates), fingerprint, checkItem and Check of package bag return. Conditions: as each says.
-/
import Derived.Test.YtomfbffaekpnlaaBag1
namespace Go.Proofs.Ytomfbffaekpnlaa
open Go.RowKit
open Go.Proofs
open WoolBag

theorem hmf : ∀ (fn : Fn) (first cap : Array Value) (w : World), (Instr.makeFunc fn first cap).run Try.prog w = .ok (.func fn first cap) w := fun _ _ _ _ => rfl

/-- what a maker of predicates leaves -/
def MakePost (w : World) (g : Nat) (p : Itm → Bool) (e : Ending) (w' : World) : Prop := ∃ lb, e = .returned (.func (.func g) #[] lb) ∧ Up w w' ∧ Pred w' g lb p

theorem hasText_make (t : List UInt8) (w : World) : Calls Try.prog 51 #[.string (bs t)] w (MakePost w 55 (txtB t)) := by
  have h := hmf
  go_enter Try.func51, Try.ntmps51
  go_wp2_with fail
  go_ret
  refine ⟨_, rfl, Up.alloc _ _, fun W hu x => ?_⟩
  have q0 := World.cell?_alloc_new w #[.string (bs t)] 9 0
  have hB : w.heap.size < (w.alloc (.cells #[.string (bs t)] 9)).heap.size := by simp
  exact hasText_in t w.heap.size x W (Nat.lt_of_lt_of_le hB hu.size) ((hu.cell (p := ⟨w.heap.size, 0, none⟩) hB).trans q0)

theorem isBehind_make (a : Itm) (w : World) : Calls Try.prog 50 #[itV a] w (MakePost w 54 (behB a)) := by
  have h := hmf
  unfold itV
  go_enter Try.func50, Try.ntmps50
  go_wp2_with fail
  go_ret
  refine ⟨_, rfl, Up.alloc _ _, fun W hu x => ?_⟩
  have q0 := World.cell?_alloc_new w #[.int .i64 a.s, .int .i64 a.n, .string (bs a.t), .int .i64 a.r] 58 0
  have q1 := World.cell?_alloc_new w #[.int .i64 a.s, .int .i64 a.n, .string (bs a.t), .int .i64 a.r] 58 1
  have hB : w.heap.size < (w.alloc (.cells #[.int .i64 a.s, .int .i64 a.n, .string (bs a.t), .int .i64 a.r] 58)).heap.size := by simp
  exact isBehind_in a x w.heap.size W (Nat.lt_of_lt_of_le hB hu.size) ((hu.cell (p := ⟨w.heap.size, 0, none⟩) hB).trans q0) ((hu.cell (p := ⟨w.heap.size, 1, none⟩) hB).trans q1)

theorem eg_text : ∀ args w, (callFunc 55 args).run Try.prog w = .ok (.enter 55 args) w := enters_of Try.func55 (by kernel_rfl) rfl

theorem eg_beh : ∀ args w, (callFunc 54 args).run Try.prog w = .ok (.enter 54 args) w := enters_of Try.func54 (by kernel_rfl) rfl

/-- the fingerprint of a block -/
def FP (t : List UInt8) : Int := ((fp 65581 t : Nat) : Int)

theorem fingerprint_any (t : List UInt8) (w : World) (hl : t.length ≤ 64) :
    Calls Try.prog 49 #[.string (bs t)] w fun e w' => e = .returned (.int .i64 (FP t)) ∧ Up w w' := by
  have h := of_ok 65581 (bs t) w (by omega) (by omega) (by rw [bs_size]; omega)
  rw [bs_list] at h
  unfold FP
  generalize fp 65581 t = N at h ⊢
  go_enter Try.func49, Try.ntmps49
  go_wp2_with fail
  refine h.mono ?_
  rintro e w1 ⟨rfl, u1⟩
  go_wp2_with fail
  go_ret
  exact ⟨rfl, u1⟩

end Go.Proofs.Ytomfbffaekpnlaa
