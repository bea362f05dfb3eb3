/-
  What the reference's Four returns. Conditions: a number below 2^32.
-/
import Derived.Test.YtbeigaanlhaolaaDoorFrameM
import Derived.Test.YtbeigaanlhaolaaDoorBs
import Derived.Test.YtbeigaanlhaolaaDoorByteS
import Derived.Deep.RegionWith
namespace Go.Proofs.YtbeigaanlhaolaaDoor
open Go.RowKit
open Go.Proofs

theorem nb4 (n : Nat) : nb n 4 = [UInt8.ofNat (n / 16777216), UInt8.ofNat (n / 65536), UInt8.ofNat (n / 256), UInt8.ofNat n] := by
  simp [nb, Nat.div_div_eq_div_mul]

/-- a text of bytes in a block, whatever came behind it -/
theorem conv_cells (l : List UInt8) (b c : Nat) (v : World) (h : ∀ j x, l[j]? = some x → v.cell? ⟨b, j, none⟩ = some (.int .u8 (x.toNat : Int))) :
    (convert 32 9 (.slice (some ⟨b, 0, none⟩) l.length c)).run Tryd.prog v = .ok (.string (bs l)) v := by
  refine run_convert_bytes_back (P := Tryd.prog) _ 32 9 5 _ c l Tryd.underlying32 Tryd.underlying5 Tryd.underlying9 ?_
  intro j hj
  rw [← h j l[j] (List.getElem?_eq_getElem hj)]
  congr 1
  unfold Addr.add
  split
  · rename_i e; subst e; rfl
  · simp

theorem four_any (n : Nat) (w : World) (hn : n < 4294967296) :
    Calls Tryd.prog 15 #[.int .i64 (n : Int)] w fun e w' => e = .returned (.string (bs (nb n 4))) ∧ Up w w' := by
  have hconv := conv_cells [UInt8.ofNat (n / 16777216), UInt8.ofNat (n / 65536), UInt8.ofNat (n / 256), UInt8.ofNat n] w.heap.size 4 (w.alloc (.cells #[.int .u8 ((n : Int) / 16777216), .int .u8 ((n : Int) / 65536 % 256), .int .u8 ((n : Int) / 256 % 256), .int .u8 ((n : Int) % 256)] 5)) (by
    intro j x hx
    match j with
    | 0 => refine (World.cell?_alloc_mark _ _ _ _ 0).trans ?_; simp at hx ⊢; subst hx; simp; omega
    | 1 => refine (World.cell?_alloc_mark _ _ _ _ 1).trans ?_; simp at hx ⊢; subst hx; simp
    | 2 => refine (World.cell?_alloc_mark _ _ _ _ 2).trans ?_; simp at hx ⊢; subst hx; simp
    | 3 => refine (World.cell?_alloc_mark _ _ _ _ 3).trans ?_; simp at hx ⊢; subst hx; simp
    | j + 4 => simp at hx)
  rw [← nb4, nb_length] at hconv
  go_enter Tryd.func15, Tryd.ntmps15
  go_wp2_with fail
  go_ret
  exact ⟨rfl, Up.alloc _ _⟩

end Go.Proofs.YtbeigaanlhaolaaDoor
