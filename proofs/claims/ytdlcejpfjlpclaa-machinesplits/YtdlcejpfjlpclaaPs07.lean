/-
  Calc of package word, case by case, by a walk of its text; no condition.
-/
import Derived.Test.YtdlcejpfjlpclaaProg
import Derived.Test.YtdlcejpfjlpclaaPs02
namespace Go.Proofs.Ytdlcejpfjlpclaa
open Go.RowKit

theorem calc5ff (x y : Int) (w : World) : Calls Try.prog 56 #[.int .i8 5, .agg #[.int .i64 x, .bool false], .agg #[.int .i64 y, .bool false]] w fun e w' =>
    e = .returned (.tuple #[.agg #[.int .i64 (wrap64 (x * y)), .bool false], .int .i8 0]) ∧ Below w.heap.size w w' := by
  go_enter Try.func56, Try.ntmps56
  go_wp2_with (first | (go_at_call 21; refine (plain_any _ _).mono ?_; rintro e w' ⟨rfl, rfl⟩) | go_in)
  all_goals (simp [bodyPost, results, Try.results56, go_sem])
  all_goals (repeat (first | exact Below.refl _ _ | refine wbel_alloc ?_ _))
theorem calc5t (x y : Int) (q : Bool) (w : World) : Calls Try.prog 56 #[.int .i8 5, .agg #[.int .i64 x, .bool true], .agg #[.int .i64 y, .bool q]] w fun e w' =>
    e = .returned (.tuple #[.agg #[.int .i64 (0), .bool false], .int .i8 4]) ∧ Below w.heap.size w w' := by
  go_enter Try.func56, Try.ntmps56
  go_wp2_with (first | (go_at_call 21; refine (plain_any _ _).mono ?_; rintro e w' ⟨rfl, rfl⟩) | go_in)
  all_goals (simp [bodyPost, results, Try.results56, go_sem])
  all_goals (repeat (first | exact Below.refl _ _ | refine wbel_alloc ?_ _))
theorem calc5ft (x y : Int) (w : World) : Calls Try.prog 56 #[.int .i8 5, .agg #[.int .i64 x, .bool false], .agg #[.int .i64 y, .bool true]] w fun e w' =>
    e = .returned (.tuple #[.agg #[.int .i64 (0), .bool false], .int .i8 4]) ∧ Below w.heap.size w w' := by
  go_enter Try.func56, Try.ntmps56
  go_wp2_with (first | (go_at_call 21; refine (plain_any _ _).mono ?_; rintro e w' ⟨rfl, rfl⟩) | go_in)
  all_goals (simp [bodyPost, results, Try.results56, go_sem])
  all_goals (repeat (first | exact Below.refl _ _ | refine wbel_alloc ?_ _))
theorem calc6ff (x y : Int) (w : World) : Calls Try.prog 56 #[.int .i8 6, .agg #[.int .i64 x, .bool false], .agg #[.int .i64 y, .bool false]] w fun e w' =>
    e = .returned (.tuple #[.agg #[.int .i64 (bits BinOp.and IntKind.i64 x y), .bool false], .int .i8 0]) ∧ Below w.heap.size w w' := by
  go_enter Try.func56, Try.ntmps56
  go_wp2_with (first | (go_at_call 21; refine (plain_any _ _).mono ?_; rintro e w' ⟨rfl, rfl⟩) | go_in)
  all_goals (simp [bodyPost, results, Try.results56, go_sem])
  all_goals (repeat (first | exact Below.refl _ _ | refine wbel_alloc ?_ _))
theorem calc6t (x y : Int) (q : Bool) (w : World) : Calls Try.prog 56 #[.int .i8 6, .agg #[.int .i64 x, .bool true], .agg #[.int .i64 y, .bool q]] w fun e w' =>
    e = .returned (.tuple #[.agg #[.int .i64 (0), .bool false], .int .i8 4]) ∧ Below w.heap.size w w' := by
  go_enter Try.func56, Try.ntmps56
  go_wp2_with (first | (go_at_call 21; refine (plain_any _ _).mono ?_; rintro e w' ⟨rfl, rfl⟩) | go_in)
  all_goals (simp [bodyPost, results, Try.results56, go_sem])
  all_goals (repeat (first | exact Below.refl _ _ | refine wbel_alloc ?_ _))
theorem calc6ft (x y : Int) (w : World) : Calls Try.prog 56 #[.int .i8 6, .agg #[.int .i64 x, .bool false], .agg #[.int .i64 y, .bool true]] w fun e w' =>
    e = .returned (.tuple #[.agg #[.int .i64 (0), .bool false], .int .i8 4]) ∧ Below w.heap.size w w' := by
  go_enter Try.func56, Try.ntmps56
  go_wp2_with (first | (go_at_call 21; refine (plain_any _ _).mono ?_; rintro e w' ⟨rfl, rfl⟩) | go_in)
  all_goals (simp [bodyPost, results, Try.results56, go_sem])
  all_goals (repeat (first | exact Below.refl _ _ | refine wbel_alloc ?_ _))


end Go.Proofs.Ytdlcejpfjlpclaa
