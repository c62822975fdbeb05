/-
  Calc of package word at Same, and at ops that it does not know, by a walk of its text; no condition. Address of package word and of the document's answer return the same two numbers for every word, number and size, and the law over them returns true; no condition. What the document asks of a calculation, as two plain functions: the value and the fault; no condition.
-/
import Derived.Test.YtgkdagnpefgjcaaGreatProg
import Derived.Test.YtgkdagnpefgjcaaGreatPr18
import Derived.Deep.RegionHeld3
import Derived.Laws.Pointers
import Derived.Outline
import Derived.StillTactics
namespace Go.Proofs.YtgkdagnpefgjcaaGreat
open Go.RowKit

theorem calc10ttne (x y : Int) (w : World) (h : (x == y) = false) : Calls Tryz.prog 71 #[.int .i8 10, .agg #[.int .i64 x, .bool true], .agg #[.int .i64 y, .bool true]] w fun e w' =>
    e = .returned (.tuple #[.agg #[.int .i64 (0), .bool false], .int .i8 0]) ∧ Below w.heap.size w w' := by
  go_enter Tryz.func71, Tryz.ntmps71
  go_wp2_with (first | (go_at_call 21; refine (plain_any _ _).mono ?_; rintro e w' ⟨rfl, rfl⟩) | go_in)
  all_goals (simp [bodyPost, results, Tryz.results71, go_sem])
  all_goals (repeat (first | exact Below.refl _ _ | refine wbel_alloc ?_ _))
theorem calc10tteq (x : Int) (w : World)  : Calls Tryz.prog 71 #[.int .i8 10, .agg #[.int .i64 x, .bool true], .agg #[.int .i64 x, .bool true]] w fun e w' =>
    e = .returned (.tuple #[.agg #[.int .i64 (1), .bool false], .int .i8 0]) ∧ Below w.heap.size w w' := by
  go_enter Tryz.func71, Tryz.ntmps71
  go_wp2_with (first | (go_at_call 21; refine (plain_any _ _).mono ?_; rintro e w' ⟨rfl, rfl⟩) | go_in)
  all_goals (simp [bodyPost, results, Tryz.results71, go_sem])
  all_goals (repeat (first | exact Below.refl _ _ | refine wbel_alloc ?_ _))
theorem calc10tf (x y : Int) (w : World) : Calls Tryz.prog 71 #[.int .i8 10, .agg #[.int .i64 x, .bool true], .agg #[.int .i64 y, .bool false]] w fun e w' =>
    e = .returned (.tuple #[.agg #[.int .i64 (0), .bool false], .int .i8 4]) ∧ Below w.heap.size w w' := by
  go_enter Tryz.func71, Tryz.ntmps71
  go_wp2_with (first | (go_at_call 21; refine (plain_any _ _).mono ?_; rintro e w' ⟨rfl, rfl⟩) | go_in)
  all_goals (simp [bodyPost, results, Tryz.results71, go_sem])
  all_goals (repeat (first | exact Below.refl _ _ | refine wbel_alloc ?_ _))
theorem calc10ft (x y : Int) (w : World) : Calls Tryz.prog 71 #[.int .i8 10, .agg #[.int .i64 x, .bool false], .agg #[.int .i64 y, .bool true]] w fun e w' =>
    e = .returned (.tuple #[.agg #[.int .i64 (0), .bool false], .int .i8 4]) ∧ Below w.heap.size w w' := by
  go_enter Tryz.func71, Tryz.ntmps71
  go_wp2_with (first | (go_at_call 21; refine (plain_any _ _).mono ?_; rintro e w' ⟨rfl, rfl⟩) | go_in)
  all_goals (simp [bodyPost, results, Tryz.results71, go_sem])
  all_goals (repeat (first | exact Below.refl _ _ | refine wbel_alloc ?_ _))
theorem calc10ffne (x y : Int) (w : World) (h : (x == y) = false) : Calls Tryz.prog 71 #[.int .i8 10, .agg #[.int .i64 x, .bool false], .agg #[.int .i64 y, .bool false]] w fun e w' =>
    e = .returned (.tuple #[.agg #[.int .i64 (0), .bool false], .int .i8 0]) ∧ Below w.heap.size w w' := by
  go_enter Tryz.func71, Tryz.ntmps71
  go_wp2_with (first | (go_at_call 21; refine (plain_any _ _).mono ?_; rintro e w' ⟨rfl, rfl⟩) | go_in)
  all_goals (simp [bodyPost, results, Tryz.results71, go_sem])
  all_goals (repeat (first | exact Below.refl _ _ | refine wbel_alloc ?_ _))
theorem calc10ffeq (x : Int) (w : World)  : Calls Tryz.prog 71 #[.int .i8 10, .agg #[.int .i64 x, .bool false], .agg #[.int .i64 x, .bool false]] w fun e w' =>
    e = .returned (.tuple #[.agg #[.int .i64 (1), .bool false], .int .i8 0]) ∧ Below w.heap.size w w' := by
  go_enter Tryz.func71, Tryz.ntmps71
  go_wp2_with (first | (go_at_call 21; refine (plain_any _ _).mono ?_; rintro e w' ⟨rfl, rfl⟩) | go_in)
  all_goals (simp [bodyPost, results, Tryz.results71, go_sem])
  all_goals (repeat (first | exact Below.refl _ _ | refine wbel_alloc ?_ _))
theorem calcdef (op x y : Int) (p q : Bool) (w : World) (h3 : (op == 3) = false) (h4 : (op == 4) = false) (h5 : (op == 5) = false) (h6 : (op == 6) = false) (h7 : (op == 7) = false) (h8 : (op == 8) = false) (h9 : (op == 9) = false) (h10 : (op == 10) = false) : Calls Tryz.prog 71 #[.int .i8 op, .agg #[.int .i64 x, .bool p], .agg #[.int .i64 y, .bool q]] w fun e w' =>
    e = .returned (.tuple #[.agg #[.int .i64 (0), .bool false], .int .i8 3]) ∧ Below w.heap.size w w' := by
  go_enter Tryz.func71, Tryz.ntmps71
  go_wp2_with (first | (go_at_call 21; refine (plain_any _ _).mono ?_; rintro e w' ⟨rfl, rfl⟩) | go_in)
  all_goals (simp [bodyPost, results, Tryz.results71, go_sem])
  all_goals (repeat (first | exact Below.refl _ _ | refine wbel_alloc ?_ _))




end Go.Proofs.YtgkdagnpefgjcaaGreat

namespace Go.Proofs.YtgkdagnpefgjcaaGreat
open Go.RowKit

/-- The address. -/
def addrV (x n z : Int) (p : Bool) : Int := if p then 0 else if wrap64 (x + n) < 0 ∨ z ≤ wrap64 (x + n) then 0 else wrap64 (x + n)
/-- The fault. -/
def addrE (x n z : Int) (p : Bool) : Int := if p then 4 else if wrap64 (x + n) < 0 ∨ z ≤ wrap64 (x + n) then 5 else 0

theorem addr_any (x n z : Int) (p : Bool) (w : World) : Calls Tryz.prog 90 #[.agg #[.int .i64 x, .bool p], .int .i64 n, .int .i64 z] w fun e w' =>
    e = .returned (.tuple #[.int .i64 (addrV x n z p), .int .i8 (addrE x n z p)]) ∧ w' = w.alloc (.cells #[.int .i64 x, .bool p] 65) := by
  unfold addrV addrE
  cases p
  · by_cases h1 : wrap64 (x + n) < 0
    · go_enter Tryz.func90, Tryz.ntmps90
      go_wp2
      go_ret2
      exact ⟨by simp, rfl⟩
    · by_cases h2 : z ≤ wrap64 (x + n)
      · go_enter Tryz.func90, Tryz.ntmps90
        go_wp2
        go_ret2
        exact ⟨by simp, rfl⟩
      · go_enter Tryz.func90, Tryz.ntmps90
        go_wp2
        go_ret2
        exact ⟨by simp, rfl⟩
  · go_enter Tryz.func90, Tryz.ntmps90
    go_wp2
    go_ret2
    exact ⟨rfl, rfl⟩




end Go.Proofs.YtgkdagnpefgjcaaGreat

namespace Go.Proofs.YtgkdagnpefgjcaaGreat
open Go.RowKit

/-- The fault of a calculation: 0 is none. -/
def calcE (op : Int) (p q : Bool) : Int := if op < 3 ∨ 10 < op then 3 else if op = 10 then (if p = q then 0 else 4) else if p || q then 4 else 0

/-- The number of a calculation; 0 where it faults. -/
def calcV (op x y : Int) (p q : Bool) : Int :=
  if calcE op p q = 0 then
    (if op = 3 then wrap64 (x + y) else if op = 4 then wrap64 (x - y) else if op = 5 then wrap64 (x * y) else if op = 6 then bits BinOp.and IntKind.i64 x y
      else if op = 7 then bits BinOp.or IntKind.i64 x y else if op = 8 then bits BinOp.xor IntKind.i64 x y else if op = 9 then (if x < y then 1 else 0) else (if x = y then 1 else 0))
  else 0




end Go.Proofs.YtgkdagnpefgjcaaGreat
