/-
  Calc of package word, case by case, by a walk of its text; no condition.
-/
import Derived.Test.YtgkdagnpefgjcaaGreatProg
import Derived.Test.YtgkdagnpefgjcaaGreatPr19
namespace Go.Proofs.YtgkdagnpefgjcaaGreat
open Go.RowKit

theorem calc3ff (x y : Int) (w : World) : Calls Tryz.prog 71 #[.int .i8 3, .agg #[.int .i64 x, .bool false], .agg #[.int .i64 y, .bool false]] w fun e w' =>
    e = .returned (.tuple #[.agg #[.int .i64 (wrap64 (x + y)), .bool false], .int .i8 0]) ∧ Below w.heap.size w w' := by
  go_enter Tryz.func71, Tryz.ntmps71
  go_wp2_with (first | (go_at_call 21; refine (plain_any _ _).mono ?_; rintro e w' ⟨rfl, rfl⟩) | go_in)
  all_goals (simp [bodyPost, results, Tryz.results71, go_sem])
  all_goals (repeat (first | exact Below.refl _ _ | refine wbel_alloc ?_ _))
theorem calc3t (x y : Int) (q : Bool) (w : World) : Calls Tryz.prog 71 #[.int .i8 3, .agg #[.int .i64 x, .bool true], .agg #[.int .i64 y, .bool q]] w fun e w' =>
    e = .returned (.tuple #[.agg #[.int .i64 (0), .bool false], .int .i8 4]) ∧ Below w.heap.size w w' := by
  go_enter Tryz.func71, Tryz.ntmps71
  go_wp2_with (first | (go_at_call 21; refine (plain_any _ _).mono ?_; rintro e w' ⟨rfl, rfl⟩) | go_in)
  all_goals (simp [bodyPost, results, Tryz.results71, go_sem])
  all_goals (repeat (first | exact Below.refl _ _ | refine wbel_alloc ?_ _))
theorem calc3ft (x y : Int) (w : World) : Calls Tryz.prog 71 #[.int .i8 3, .agg #[.int .i64 x, .bool false], .agg #[.int .i64 y, .bool true]] w fun e w' =>
    e = .returned (.tuple #[.agg #[.int .i64 (0), .bool false], .int .i8 4]) ∧ Below w.heap.size w w' := by
  go_enter Tryz.func71, Tryz.ntmps71
  go_wp2_with (first | (go_at_call 21; refine (plain_any _ _).mono ?_; rintro e w' ⟨rfl, rfl⟩) | go_in)
  all_goals (simp [bodyPost, results, Tryz.results71, go_sem])
  all_goals (repeat (first | exact Below.refl _ _ | refine wbel_alloc ?_ _))
theorem calc4ff (x y : Int) (w : World) : Calls Tryz.prog 71 #[.int .i8 4, .agg #[.int .i64 x, .bool false], .agg #[.int .i64 y, .bool false]] w fun e w' =>
    e = .returned (.tuple #[.agg #[.int .i64 (wrap64 (x - y)), .bool false], .int .i8 0]) ∧ Below w.heap.size w w' := by
  go_enter Tryz.func71, Tryz.ntmps71
  go_wp2_with (first | (go_at_call 21; refine (plain_any _ _).mono ?_; rintro e w' ⟨rfl, rfl⟩) | go_in)
  all_goals (simp [bodyPost, results, Tryz.results71, go_sem])
  all_goals (repeat (first | exact Below.refl _ _ | refine wbel_alloc ?_ _))
theorem calc4t (x y : Int) (q : Bool) (w : World) : Calls Tryz.prog 71 #[.int .i8 4, .agg #[.int .i64 x, .bool true], .agg #[.int .i64 y, .bool q]] w fun e w' =>
    e = .returned (.tuple #[.agg #[.int .i64 (0), .bool false], .int .i8 4]) ∧ Below w.heap.size w w' := by
  go_enter Tryz.func71, Tryz.ntmps71
  go_wp2_with (first | (go_at_call 21; refine (plain_any _ _).mono ?_; rintro e w' ⟨rfl, rfl⟩) | go_in)
  all_goals (simp [bodyPost, results, Tryz.results71, go_sem])
  all_goals (repeat (first | exact Below.refl _ _ | refine wbel_alloc ?_ _))
theorem calc4ft (x y : Int) (w : World) : Calls Tryz.prog 71 #[.int .i8 4, .agg #[.int .i64 x, .bool false], .agg #[.int .i64 y, .bool true]] w fun e w' =>
    e = .returned (.tuple #[.agg #[.int .i64 (0), .bool false], .int .i8 4]) ∧ Below w.heap.size w w' := by
  go_enter Tryz.func71, Tryz.ntmps71
  go_wp2_with (first | (go_at_call 21; refine (plain_any _ _).mono ?_; rintro e w' ⟨rfl, rfl⟩) | go_in)
  all_goals (simp [bodyPost, results, Tryz.results71, go_sem])
  all_goals (repeat (first | exact Below.refl _ _ | refine wbel_alloc ?_ _))




end Go.Proofs.YtgkdagnpefgjcaaGreat
