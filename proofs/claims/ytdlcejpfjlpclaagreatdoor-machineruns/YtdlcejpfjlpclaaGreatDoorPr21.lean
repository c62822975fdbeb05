/-
  Calc of the document's answer, case by case, by a walk of its text; no condition. Calc of the document's answer, case by case, by a walk of its text; no condition. Calc of the document's answer, case by case, by a walk of its text; no condition.
-/
import Derived.Test.YtdlcejpfjlpclaaGreatDoorProg
import Derived.Test.YtdlcejpfjlpclaaGreatDoorPr02
namespace Go.Proofs.YtdlcejpfjlpclaaGreatDoor
open Go.RowKit

theorem refcalc7ff (x y : Int) (w : World) : Calls Tryz.prog 66 #[.int .i8 7, .agg #[.int .i64 x, .bool false], .agg #[.int .i64 y, .bool false]] w fun e w' =>
    e = .returned (.tuple #[.agg #[.int .i64 (bits BinOp.or IntKind.i64 x y), .bool false], .int .i8 0]) ∧ Below w.heap.size w w' := by
  go_enter Tryz.func66, Tryz.ntmps66
  go_wp2_with (first | (go_at_call 91; refine (reftruth_any _ _).mono ?_; rintro e w' ⟨rfl, rfl⟩) | go_in)
  all_goals (simp [bodyPost, results, Tryz.results66, go_sem])
  all_goals (repeat (first | exact Below.refl _ _ | refine wbel_alloc ?_ _))
theorem refcalc7t (x y : Int) (q : Bool) (w : World) : Calls Tryz.prog 66 #[.int .i8 7, .agg #[.int .i64 x, .bool true], .agg #[.int .i64 y, .bool q]] w fun e w' =>
    e = .returned (.tuple #[.agg #[.int .i64 (0), .bool false], .int .i8 4]) ∧ Below w.heap.size w w' := by
  go_enter Tryz.func66, Tryz.ntmps66
  go_wp2_with (first | (go_at_call 91; refine (reftruth_any _ _).mono ?_; rintro e w' ⟨rfl, rfl⟩) | go_in)
  all_goals (simp [bodyPost, results, Tryz.results66, go_sem])
  all_goals (repeat (first | exact Below.refl _ _ | refine wbel_alloc ?_ _))
theorem refcalc7ft (x y : Int) (w : World) : Calls Tryz.prog 66 #[.int .i8 7, .agg #[.int .i64 x, .bool false], .agg #[.int .i64 y, .bool true]] w fun e w' =>
    e = .returned (.tuple #[.agg #[.int .i64 (0), .bool false], .int .i8 4]) ∧ Below w.heap.size w w' := by
  go_enter Tryz.func66, Tryz.ntmps66
  go_wp2_with (first | (go_at_call 91; refine (reftruth_any _ _).mono ?_; rintro e w' ⟨rfl, rfl⟩) | go_in)
  all_goals (simp [bodyPost, results, Tryz.results66, go_sem])
  all_goals (repeat (first | exact Below.refl _ _ | refine wbel_alloc ?_ _))
theorem refcalc8ff (x y : Int) (w : World) : Calls Tryz.prog 66 #[.int .i8 8, .agg #[.int .i64 x, .bool false], .agg #[.int .i64 y, .bool false]] w fun e w' =>
    e = .returned (.tuple #[.agg #[.int .i64 (bits BinOp.xor IntKind.i64 x y), .bool false], .int .i8 0]) ∧ Below w.heap.size w w' := by
  go_enter Tryz.func66, Tryz.ntmps66
  go_wp2_with (first | (go_at_call 91; refine (reftruth_any _ _).mono ?_; rintro e w' ⟨rfl, rfl⟩) | go_in)
  all_goals (simp [bodyPost, results, Tryz.results66, go_sem])
  all_goals (repeat (first | exact Below.refl _ _ | refine wbel_alloc ?_ _))
theorem refcalc8t (x y : Int) (q : Bool) (w : World) : Calls Tryz.prog 66 #[.int .i8 8, .agg #[.int .i64 x, .bool true], .agg #[.int .i64 y, .bool q]] w fun e w' =>
    e = .returned (.tuple #[.agg #[.int .i64 (0), .bool false], .int .i8 4]) ∧ Below w.heap.size w w' := by
  go_enter Tryz.func66, Tryz.ntmps66
  go_wp2_with (first | (go_at_call 91; refine (reftruth_any _ _).mono ?_; rintro e w' ⟨rfl, rfl⟩) | go_in)
  all_goals (simp [bodyPost, results, Tryz.results66, go_sem])
  all_goals (repeat (first | exact Below.refl _ _ | refine wbel_alloc ?_ _))
theorem refcalc8ft (x y : Int) (w : World) : Calls Tryz.prog 66 #[.int .i8 8, .agg #[.int .i64 x, .bool false], .agg #[.int .i64 y, .bool true]] w fun e w' =>
    e = .returned (.tuple #[.agg #[.int .i64 (0), .bool false], .int .i8 4]) ∧ Below w.heap.size w w' := by
  go_enter Tryz.func66, Tryz.ntmps66
  go_wp2_with (first | (go_at_call 91; refine (reftruth_any _ _).mono ?_; rintro e w' ⟨rfl, rfl⟩) | go_in)
  all_goals (simp [bodyPost, results, Tryz.results66, go_sem])
  all_goals (repeat (first | exact Below.refl _ _ | refine wbel_alloc ?_ _))


end Go.Proofs.YtdlcejpfjlpclaaGreatDoor

namespace Go.Proofs.YtdlcejpfjlpclaaGreatDoor
open Go.RowKit

theorem refcalc9ff (x y : Int) (w : World) : Calls Tryz.prog 66 #[.int .i8 9, .agg #[.int .i64 x, .bool false], .agg #[.int .i64 y, .bool false]] w fun e w' =>
    e = .returned (.tuple #[.agg #[.int .i64 ((if x < y then 1 else 0)), .bool false], .int .i8 0]) ∧ Below w.heap.size w w' := by
  go_enter Tryz.func66, Tryz.ntmps66
  go_wp2_with (first | (go_at_call 91; refine (reftruth_any _ _).mono ?_; rintro e w' ⟨rfl, rfl⟩) | go_in)
  all_goals (simp [bodyPost, results, Tryz.results66, go_sem])
  all_goals (repeat (first | exact Below.refl _ _ | refine wbel_alloc ?_ _))
theorem refcalc9t (x y : Int) (q : Bool) (w : World) : Calls Tryz.prog 66 #[.int .i8 9, .agg #[.int .i64 x, .bool true], .agg #[.int .i64 y, .bool q]] w fun e w' =>
    e = .returned (.tuple #[.agg #[.int .i64 (0), .bool false], .int .i8 4]) ∧ Below w.heap.size w w' := by
  go_enter Tryz.func66, Tryz.ntmps66
  go_wp2_with (first | (go_at_call 91; refine (reftruth_any _ _).mono ?_; rintro e w' ⟨rfl, rfl⟩) | go_in)
  all_goals (simp [bodyPost, results, Tryz.results66, go_sem])
  all_goals (repeat (first | exact Below.refl _ _ | refine wbel_alloc ?_ _))
theorem refcalc9ft (x y : Int) (w : World) : Calls Tryz.prog 66 #[.int .i8 9, .agg #[.int .i64 x, .bool false], .agg #[.int .i64 y, .bool true]] w fun e w' =>
    e = .returned (.tuple #[.agg #[.int .i64 (0), .bool false], .int .i8 4]) ∧ Below w.heap.size w w' := by
  go_enter Tryz.func66, Tryz.ntmps66
  go_wp2_with (first | (go_at_call 91; refine (reftruth_any _ _).mono ?_; rintro e w' ⟨rfl, rfl⟩) | go_in)
  all_goals (simp [bodyPost, results, Tryz.results66, go_sem])
  all_goals (repeat (first | exact Below.refl _ _ | refine wbel_alloc ?_ _))


end Go.Proofs.YtdlcejpfjlpclaaGreatDoor

namespace Go.Proofs.YtdlcejpfjlpclaaGreatDoor
open Go.RowKit

theorem refcalc10tt (x y : Int) (w : World) : Calls Tryz.prog 66 #[.int .i8 10, .agg #[.int .i64 x, .bool true], .agg #[.int .i64 y, .bool true]] w fun e w' =>
    e = .returned (.tuple #[.agg #[.int .i64 (if x = y then 1 else 0), .bool false], .int .i8 0]) ∧ Below w.heap.size w w' := by
  go_enter Tryz.func66, Tryz.ntmps66
  go_wp2_with (first | (go_at_call 91; refine (reftruth_any _ _).mono ?_; rintro e w' ⟨rfl, rfl⟩) | go_in)
  all_goals (simp [bodyPost, results, Tryz.results66, go_sem])
  all_goals (repeat (first | exact Below.refl _ _ | refine wbel_alloc ?_ _))
theorem refcalc10tf (x y : Int) (w : World) : Calls Tryz.prog 66 #[.int .i8 10, .agg #[.int .i64 x, .bool true], .agg #[.int .i64 y, .bool false]] w fun e w' =>
    e = .returned (.tuple #[.agg #[.int .i64 (0), .bool false], .int .i8 4]) ∧ Below w.heap.size w w' := by
  go_enter Tryz.func66, Tryz.ntmps66
  go_wp2_with (first | (go_at_call 91; refine (reftruth_any _ _).mono ?_; rintro e w' ⟨rfl, rfl⟩) | go_in)
  all_goals (simp [bodyPost, results, Tryz.results66, go_sem])
  all_goals (repeat (first | exact Below.refl _ _ | refine wbel_alloc ?_ _))
theorem refcalc10ft (x y : Int) (w : World) : Calls Tryz.prog 66 #[.int .i8 10, .agg #[.int .i64 x, .bool false], .agg #[.int .i64 y, .bool true]] w fun e w' =>
    e = .returned (.tuple #[.agg #[.int .i64 (0), .bool false], .int .i8 4]) ∧ Below w.heap.size w w' := by
  go_enter Tryz.func66, Tryz.ntmps66
  go_wp2_with (first | (go_at_call 91; refine (reftruth_any _ _).mono ?_; rintro e w' ⟨rfl, rfl⟩) | go_in)
  all_goals (simp [bodyPost, results, Tryz.results66, go_sem])
  all_goals (repeat (first | exact Below.refl _ _ | refine wbel_alloc ?_ _))
theorem refcalc10ff (x y : Int) (w : World) : Calls Tryz.prog 66 #[.int .i8 10, .agg #[.int .i64 x, .bool false], .agg #[.int .i64 y, .bool false]] w fun e w' =>
    e = .returned (.tuple #[.agg #[.int .i64 (if x = y then 1 else 0), .bool false], .int .i8 0]) ∧ Below w.heap.size w w' := by
  go_enter Tryz.func66, Tryz.ntmps66
  go_wp2_with (first | (go_at_call 91; refine (reftruth_any _ _).mono ?_; rintro e w' ⟨rfl, rfl⟩) | go_in)
  all_goals (simp [bodyPost, results, Tryz.results66, go_sem])
  all_goals (repeat (first | exact Below.refl _ _ | refine wbel_alloc ?_ _))
theorem refcalclo (op x y : Int) (p q : Bool) (w : World) (h : op < 3) : Calls Tryz.prog 66 #[.int .i8 op, .agg #[.int .i64 x, .bool p], .agg #[.int .i64 y, .bool q]] w fun e w' =>
    e = .returned (.tuple #[.agg #[.int .i64 (0), .bool false], .int .i8 3]) ∧ Below w.heap.size w w' := by
  go_enter Tryz.func66, Tryz.ntmps66
  go_wp2_with (first | (go_at_call 91; refine (reftruth_any _ _).mono ?_; rintro e w' ⟨rfl, rfl⟩) | go_in)
  all_goals (simp [bodyPost, results, Tryz.results66, go_sem])
  all_goals (repeat (first | exact Below.refl _ _ | refine wbel_alloc ?_ _))
theorem refcalchi (op x y : Int) (p q : Bool) (w : World) (h0 : ¬ op < 3) (h : 10 < op) : Calls Tryz.prog 66 #[.int .i8 op, .agg #[.int .i64 x, .bool p], .agg #[.int .i64 y, .bool q]] w fun e w' =>
    e = .returned (.tuple #[.agg #[.int .i64 (0), .bool false], .int .i8 3]) ∧ Below w.heap.size w w' := by
  go_enter Tryz.func66, Tryz.ntmps66
  go_wp2_with (first | (go_at_call 91; refine (reftruth_any _ _).mono ?_; rintro e w' ⟨rfl, rfl⟩) | go_in)
  all_goals (simp [bodyPost, results, Tryz.results66, go_sem])
  all_goals (repeat (first | exact Below.refl _ _ | refine wbel_alloc ?_ _))


end Go.Proofs.YtdlcejpfjlpclaaGreatDoor
