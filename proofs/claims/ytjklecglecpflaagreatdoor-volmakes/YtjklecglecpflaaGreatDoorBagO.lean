/-
  What Put, Get, Drop, Check and two return, in the form that the laws' walks take. Conditions: as each says.
-/
import Derived.Test.YtjklecglecpflaaGreatDoorBagL
namespace Go.Proofs.YtjklecglecpflaaGreatDoor
open Go.RowKit
open Go.Proofs
open WoolBag

/-- what Put answers, opened -/
theorem put_open (v : Value) (l : List Itm) (t : List UInt8) (w : World) (h : Items w v l) (A : List Itm) (ib : Bool) (is iN E : Int) (hP : WoolBag.put FP l t = (A, (ib, is, iN), E)) :
    Calls Tryz.prog 91 #[v, .string (bs t)] w fun e w' => ∃ o c, e = .returned (.tuple #[.slice o A.length c, .agg #[.bool ib, .int .i64 is, .int .i64 iN], .int .i64 E]) ∧ OItems w' w.heap.size (.slice o A.length c) A ∧ Up w w' := by
  refine (put_any v l t w h).mono ?_
  rintro e w' ⟨v', rfl, ho, hu⟩
  rw [hP] at ho ⊢
  obtain ⟨o, c, rfl, _⟩ := ho.items.slice
  exact ⟨o, c, rfl, ho, hu⟩

theorem get_open (v : Value) (l : List Itm) (ib : Bool) (is iN : Int) (w : World) (h : Items w v l) (t : List UInt8) (E : Int) (hg : WoolBag.get FP l (ib, is, iN) = (t, E)) :
    Calls Tryz.prog 90 #[v, .agg #[.bool ib, .int .i64 is, .int .i64 iN]] w fun e w' => e = .returned (.tuple #[.string (bs t), .int .i64 E]) ∧ Up w w' := by
  have := get_any v l (ib, is, iN) w h
  unfold getBR at this
  rw [hg] at this
  exact this

theorem checkB_ok (v : Value) (l : List Itm) (w : World) (h : Items w v l) (hb : Bag FP l) :
    Calls Tryz.prog 42 #[v] w fun e w' => e = .returned (.int .i64 0) ∧ Up w w' := by
  have := check_any v l w h
  rw [(chk_zero FP).2 hb] at this
  exact this

theorem self_eq (s : List UInt8) : ((bs s).toList == (bs s).toList) = true := by rw [txt_eq]; simp

theorem drop_open (v : Value) (l : List Itm) (ib : Bool) (is iN : Int) (w : World) (h : Items w v l) (B : List Itm) (E : Int) (hd : WoolBag.drop FP l (ib, is, iN) = (B, E)) :
    Calls Tryz.prog 54 #[v, .agg #[.bool ib, .int .i64 is, .int .i64 iN]] w fun e w' => ∃ o c, e = .returned (.tuple #[.slice o B.length c, .int .i64 E]) ∧ OItems w' w.heap.size (.slice o B.length c) B ∧ Up w w' := by
  refine (drop_any v l (ib, is, iN) w h).mono ?_
  rintro e w' ⟨v', rfl, ho, hu⟩
  rw [hd] at ho ⊢
  obtain ⟨o, c, rfl, _⟩ := ho.items.slice
  exact ⟨o, c, rfl, ho, hu⟩

end Go.Proofs.YtjklecglecpflaaGreatDoor
