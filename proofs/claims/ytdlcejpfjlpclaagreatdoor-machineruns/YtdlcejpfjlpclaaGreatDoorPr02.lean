/-
  The small functions of package word and of the document's answer, each by what it returns: Plain, Sealed, truth, sealFault and the closures of operation; no condition. What the document asks of a calculation, as two plain functions: the value and the fault; no condition. Calc of package word, case by case, by a walk of its text; no condition.
-/
import Derived.Test.YtdlcejpfjlpclaaGreatDoorProg
import Derived.WalkKit
import Derived.WalkSpells
import Derived.WalkLawsBesides
import Derived.RowKit3
import Derived.Below
namespace Go.Proofs.YtdlcejpfjlpclaaGreatDoor
open Go.RowKit

theorem plain_any (v : Int) (w : World) : Calls Tryz.prog 26 #[.int .i64 v] w fun e w' =>
    e = .returned (.agg #[.int .i64 v, .bool false]) ∧ w' = w.alloc (.cells #[.int .i64 v, .bool false] 71) := by
  go_enter Tryz.func26, Tryz.ntmps26
  go_wp2
  simp [bodyPost, results, Tryz.results26, go_sem]

theorem sealed_any (v : Int) (w : World) : Calls Tryz.prog 103 #[.int .i64 v] w fun e w' =>
    e = .returned (.agg #[.int .i64 v, .bool true]) ∧ w' = w.alloc (.cells #[.int .i64 v, .bool true] 71) := by
  go_enter Tryz.func103, Tryz.ntmps103
  go_wp2
  simp [bodyPost, results, Tryz.results103, go_sem]

theorem sealFault_any (b : Bool) (w : World) : Calls Tryz.prog 117 #[.bool b] w fun e w' =>
    e = .returned (.int .i8 (if b then 4 else 0)) ∧ w' = w := by
  cases b
  · go_enter Tryz.func117, Tryz.ntmps117
    go_wp2
    go_ret
    exact ⟨rfl, rfl⟩
  · go_enter Tryz.func117, Tryz.ntmps117
    go_wp2
    go_ret
    exact ⟨rfl, rfl⟩

theorem truth_any (b : Bool) (w : World) : Calls Tryz.prog 115 #[.bool b] w fun e w' =>
    e = .returned (.int .i64 (if b then 1 else 0)) ∧ w' = w := by
  cases b
  · go_enter Tryz.func115, Tryz.ntmps115
    go_wp2
    go_ret
    exact ⟨rfl, rfl⟩
  · go_enter Tryz.func115, Tryz.ntmps115
    go_wp2
    go_ret
    exact ⟨rfl, rfl⟩

theorem reftruth_any (b : Bool) (w : World) : Calls Tryz.prog 91 #[.bool b] w fun e w' =>
    e = .returned (.agg #[.int .i64 (if b then 1 else 0), .bool false]) ∧ w' = w.alloc (.cells #[.int .i64 (if b then 1 else 0), .bool false] 71) := by
  cases b
  · go_enter Tryz.func91, Tryz.ntmps91
    go_wp2
    simp [bodyPost, results, Tryz.results91, go_sem]
  · go_enter Tryz.func91, Tryz.ntmps91
    go_wp2
    simp [bodyPost, results, Tryz.results91, go_sem]

theorem wbel_alloc {w w' : World} (h : Below w.heap.size w w') (o : Obj) : Below w.heap.size w (w'.alloc o) := h.alloc h.size o


end Go.Proofs.YtdlcejpfjlpclaaGreatDoor

namespace Go.Proofs.YtdlcejpfjlpclaaGreatDoor
open Go.RowKit

/-- The fault of a calculation: 0 is none. -/
def calcE (op : Int) (p q : Bool) : Int := if op < 3 ∨ 10 < op then 3 else if op = 10 then (if p = q then 0 else 4) else if p || q then 4 else 0

/-- The number of a calculation; 0 where it faults. -/
def calcV (op x y : Int) (p q : Bool) : Int :=
  if calcE op p q = 0 then
    (if op = 3 then wrap64 (x + y) else if op = 4 then wrap64 (x - y) else if op = 5 then wrap64 (x * y) else if op = 6 then bits BinOp.and IntKind.i64 x y
      else if op = 7 then bits BinOp.or IntKind.i64 x y else if op = 8 then bits BinOp.xor IntKind.i64 x y else if op = 9 then (if x < y then 1 else 0) else (if x = y then 1 else 0))
  else 0


end Go.Proofs.YtdlcejpfjlpclaaGreatDoor

namespace Go.Proofs.YtdlcejpfjlpclaaGreatDoor
open Go.RowKit

theorem calc3ff (x y : Int) (w : World) : Calls Tryz.prog 97 #[.int .i8 3, .agg #[.int .i64 x, .bool false], .agg #[.int .i64 y, .bool false]] w fun e w' =>
    e = .returned (.tuple #[.agg #[.int .i64 (wrap64 (x + y)), .bool false], .int .i8 0]) ∧ Below w.heap.size w w' := by
  go_enter Tryz.func97, Tryz.ntmps97
  go_wp2_with (first | (go_at_call 26; refine (plain_any _ _).mono ?_; rintro e w' ⟨rfl, rfl⟩) | go_in)
  all_goals (simp [bodyPost, results, Tryz.results97, go_sem])
  all_goals (repeat (first | exact Below.refl _ _ | refine wbel_alloc ?_ _))
theorem calc3t (x y : Int) (q : Bool) (w : World) : Calls Tryz.prog 97 #[.int .i8 3, .agg #[.int .i64 x, .bool true], .agg #[.int .i64 y, .bool q]] w fun e w' =>
    e = .returned (.tuple #[.agg #[.int .i64 (0), .bool false], .int .i8 4]) ∧ Below w.heap.size w w' := by
  go_enter Tryz.func97, Tryz.ntmps97
  go_wp2_with (first | (go_at_call 26; refine (plain_any _ _).mono ?_; rintro e w' ⟨rfl, rfl⟩) | go_in)
  all_goals (simp [bodyPost, results, Tryz.results97, go_sem])
  all_goals (repeat (first | exact Below.refl _ _ | refine wbel_alloc ?_ _))
theorem calc3ft (x y : Int) (w : World) : Calls Tryz.prog 97 #[.int .i8 3, .agg #[.int .i64 x, .bool false], .agg #[.int .i64 y, .bool true]] w fun e w' =>
    e = .returned (.tuple #[.agg #[.int .i64 (0), .bool false], .int .i8 4]) ∧ Below w.heap.size w w' := by
  go_enter Tryz.func97, Tryz.ntmps97
  go_wp2_with (first | (go_at_call 26; refine (plain_any _ _).mono ?_; rintro e w' ⟨rfl, rfl⟩) | go_in)
  all_goals (simp [bodyPost, results, Tryz.results97, go_sem])
  all_goals (repeat (first | exact Below.refl _ _ | refine wbel_alloc ?_ _))
theorem calc4ff (x y : Int) (w : World) : Calls Tryz.prog 97 #[.int .i8 4, .agg #[.int .i64 x, .bool false], .agg #[.int .i64 y, .bool false]] w fun e w' =>
    e = .returned (.tuple #[.agg #[.int .i64 (wrap64 (x - y)), .bool false], .int .i8 0]) ∧ Below w.heap.size w w' := by
  go_enter Tryz.func97, Tryz.ntmps97
  go_wp2_with (first | (go_at_call 26; refine (plain_any _ _).mono ?_; rintro e w' ⟨rfl, rfl⟩) | go_in)
  all_goals (simp [bodyPost, results, Tryz.results97, go_sem])
  all_goals (repeat (first | exact Below.refl _ _ | refine wbel_alloc ?_ _))
theorem calc4t (x y : Int) (q : Bool) (w : World) : Calls Tryz.prog 97 #[.int .i8 4, .agg #[.int .i64 x, .bool true], .agg #[.int .i64 y, .bool q]] w fun e w' =>
    e = .returned (.tuple #[.agg #[.int .i64 (0), .bool false], .int .i8 4]) ∧ Below w.heap.size w w' := by
  go_enter Tryz.func97, Tryz.ntmps97
  go_wp2_with (first | (go_at_call 26; refine (plain_any _ _).mono ?_; rintro e w' ⟨rfl, rfl⟩) | go_in)
  all_goals (simp [bodyPost, results, Tryz.results97, go_sem])
  all_goals (repeat (first | exact Below.refl _ _ | refine wbel_alloc ?_ _))
theorem calc4ft (x y : Int) (w : World) : Calls Tryz.prog 97 #[.int .i8 4, .agg #[.int .i64 x, .bool false], .agg #[.int .i64 y, .bool true]] w fun e w' =>
    e = .returned (.tuple #[.agg #[.int .i64 (0), .bool false], .int .i8 4]) ∧ Below w.heap.size w w' := by
  go_enter Tryz.func97, Tryz.ntmps97
  go_wp2_with (first | (go_at_call 26; refine (plain_any _ _).mono ?_; rintro e w' ⟨rfl, rfl⟩) | go_in)
  all_goals (simp [bodyPost, results, Tryz.results97, go_sem])
  all_goals (repeat (first | exact Below.refl _ _ | refine wbel_alloc ?_ _))


end Go.Proofs.YtdlcejpfjlpclaaGreatDoor
