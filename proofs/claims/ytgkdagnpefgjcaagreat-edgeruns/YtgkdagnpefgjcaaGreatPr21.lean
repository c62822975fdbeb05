/-
  Calc of package word at Same, and at ops that it does not know, by a walk of its text; no condition.
-/
import Derived.Test.YtgkdagnpefgjcaaGreatProg
import Derived.Test.YtgkdagnpefgjcaaGreatPr19
namespace Go.Proofs.YtgkdagnpefgjcaaGreat
open Go.RowKit

theorem calc10ttne (x y : Int) (w : World) (h : (x == y) = false) : Calls Tryz.prog 71 #[.int .i8 10, .agg #[.int .i64 x, .bool true], .agg #[.int .i64 y, .bool true]] w fun e w' =>
    e = .returned (.tuple #[.agg #[.int .i64 (0), .bool false], .int .i8 0]) ∧ Below w.heap.size w w' := by
  go_enter Tryz.func71, Tryz.ntmps71
  go_wp2_with (first | (go_at_call 21; refine (plain_any _ _).mono ?_; rintro e w' ⟨rfl, rfl⟩) | go_in)
  all_goals (simp [bodyPost, results, Tryz.results71, go_sem])
  all_goals (repeat (first | exact Below.refl _ _ | refine wbel_alloc ?_ _))
theorem calc10tteq (x : Int) (w : World)  : Calls Tryz.prog 71 #[.int .i8 10, .agg #[.int .i64 x, .bool true], .agg #[.int .i64 x, .bool true]] w fun e w' =>
    e = .returned (.tuple #[.agg #[.int .i64 (1), .bool false], .int .i8 0]) ∧ Below w.heap.size w w' := by
  go_enter Tryz.func71, Tryz.ntmps71
  go_wp2_with (first | (go_at_call 21; refine (plain_any _ _).mono ?_; rintro e w' ⟨rfl, rfl⟩) | go_in)
  all_goals (simp [bodyPost, results, Tryz.results71, go_sem])
  all_goals (repeat (first | exact Below.refl _ _ | refine wbel_alloc ?_ _))
theorem calc10tf (x y : Int) (w : World) : Calls Tryz.prog 71 #[.int .i8 10, .agg #[.int .i64 x, .bool true], .agg #[.int .i64 y, .bool false]] w fun e w' =>
    e = .returned (.tuple #[.agg #[.int .i64 (0), .bool false], .int .i8 4]) ∧ Below w.heap.size w w' := by
  go_enter Tryz.func71, Tryz.ntmps71
  go_wp2_with (first | (go_at_call 21; refine (plain_any _ _).mono ?_; rintro e w' ⟨rfl, rfl⟩) | go_in)
  all_goals (simp [bodyPost, results, Tryz.results71, go_sem])
  all_goals (repeat (first | exact Below.refl _ _ | refine wbel_alloc ?_ _))
theorem calc10ft (x y : Int) (w : World) : Calls Tryz.prog 71 #[.int .i8 10, .agg #[.int .i64 x, .bool false], .agg #[.int .i64 y, .bool true]] w fun e w' =>
    e = .returned (.tuple #[.agg #[.int .i64 (0), .bool false], .int .i8 4]) ∧ Below w.heap.size w w' := by
  go_enter Tryz.func71, Tryz.ntmps71
  go_wp2_with (first | (go_at_call 21; refine (plain_any _ _).mono ?_; rintro e w' ⟨rfl, rfl⟩) | go_in)
  all_goals (simp [bodyPost, results, Tryz.results71, go_sem])
  all_goals (repeat (first | exact Below.refl _ _ | refine wbel_alloc ?_ _))
theorem calc10ffne (x y : Int) (w : World) (h : (x == y) = false) : Calls Tryz.prog 71 #[.int .i8 10, .agg #[.int .i64 x, .bool false], .agg #[.int .i64 y, .bool false]] w fun e w' =>
    e = .returned (.tuple #[.agg #[.int .i64 (0), .bool false], .int .i8 0]) ∧ Below w.heap.size w w' := by
  go_enter Tryz.func71, Tryz.ntmps71
  go_wp2_with (first | (go_at_call 21; refine (plain_any _ _).mono ?_; rintro e w' ⟨rfl, rfl⟩) | go_in)
  all_goals (simp [bodyPost, results, Tryz.results71, go_sem])
  all_goals (repeat (first | exact Below.refl _ _ | refine wbel_alloc ?_ _))
theorem calc10ffeq (x : Int) (w : World)  : Calls Tryz.prog 71 #[.int .i8 10, .agg #[.int .i64 x, .bool false], .agg #[.int .i64 x, .bool false]] w fun e w' =>
    e = .returned (.tuple #[.agg #[.int .i64 (1), .bool false], .int .i8 0]) ∧ Below w.heap.size w w' := by
  go_enter Tryz.func71, Tryz.ntmps71
  go_wp2_with (first | (go_at_call 21; refine (plain_any _ _).mono ?_; rintro e w' ⟨rfl, rfl⟩) | go_in)
  all_goals (simp [bodyPost, results, Tryz.results71, go_sem])
  all_goals (repeat (first | exact Below.refl _ _ | refine wbel_alloc ?_ _))
theorem calcdef (op x y : Int) (p q : Bool) (w : World) (h3 : (op == 3) = false) (h4 : (op == 4) = false) (h5 : (op == 5) = false) (h6 : (op == 6) = false) (h7 : (op == 7) = false) (h8 : (op == 8) = false) (h9 : (op == 9) = false) (h10 : (op == 10) = false) : Calls Tryz.prog 71 #[.int .i8 op, .agg #[.int .i64 x, .bool p], .agg #[.int .i64 y, .bool q]] w fun e w' =>
    e = .returned (.tuple #[.agg #[.int .i64 (0), .bool false], .int .i8 3]) ∧ Below w.heap.size w w' := by
  go_enter Tryz.func71, Tryz.ntmps71
  go_wp2_with (first | (go_at_call 21; refine (plain_any _ _).mono ?_; rintro e w' ⟨rfl, rfl⟩) | go_in)
  all_goals (simp [bodyPost, results, Tryz.results71, go_sem])
  all_goals (repeat (first | exact Below.refl _ _ | refine wbel_alloc ?_ _))




end Go.Proofs.YtgkdagnpefgjcaaGreat
