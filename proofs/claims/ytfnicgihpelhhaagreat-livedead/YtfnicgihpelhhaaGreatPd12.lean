/-
  Calc of package word, case by case, by a walk of its text; no condition. Calc of package word, case by case, by a walk of its text; no condition. Calc of package word at Same, and at ops that it does not know, by a walk of its text; no condition. Calc of package word returns what the two plain functions say, for every op and two words; no condition.
-/
import Derived.Test.YtfnicgihpelhhaaGreatProg
import Derived.Test.YtfnicgihpelhhaaGreatPd11
import Derived.Test.YtfnicgihpelhhaaGreatPd10
namespace Go.Proofs.YtfnicgihpelhhaaGreat
open Go.RowKit

theorem calc7ff (x y : Int) (w : World) : Calls Tryz.prog 116 #[.int .i8 7, .agg #[.int .i64 x, .bool false], .agg #[.int .i64 y, .bool false]] w fun e w' =>
    e = .returned (.tuple #[.agg #[.int .i64 (bits BinOp.or IntKind.i64 x y), .bool false], .int .i8 0]) ∧ Below w.heap.size w w' := by
  go_enter Tryz.func116, Tryz.ntmps116
  go_wp2_with (first | (go_at_call 37; refine (plain_any _ _).mono ?_; rintro e w' ⟨rfl, rfl⟩) | go_in)
  all_goals (simp [bodyPost, results, Tryz.results116, go_sem])
  all_goals (repeat (first | exact Below.refl _ _ | refine wbel_alloc ?_ _))
theorem calc7t (x y : Int) (q : Bool) (w : World) : Calls Tryz.prog 116 #[.int .i8 7, .agg #[.int .i64 x, .bool true], .agg #[.int .i64 y, .bool q]] w fun e w' =>
    e = .returned (.tuple #[.agg #[.int .i64 (0), .bool false], .int .i8 4]) ∧ Below w.heap.size w w' := by
  go_enter Tryz.func116, Tryz.ntmps116
  go_wp2_with (first | (go_at_call 37; refine (plain_any _ _).mono ?_; rintro e w' ⟨rfl, rfl⟩) | go_in)
  all_goals (simp [bodyPost, results, Tryz.results116, go_sem])
  all_goals (repeat (first | exact Below.refl _ _ | refine wbel_alloc ?_ _))
theorem calc7ft (x y : Int) (w : World) : Calls Tryz.prog 116 #[.int .i8 7, .agg #[.int .i64 x, .bool false], .agg #[.int .i64 y, .bool true]] w fun e w' =>
    e = .returned (.tuple #[.agg #[.int .i64 (0), .bool false], .int .i8 4]) ∧ Below w.heap.size w w' := by
  go_enter Tryz.func116, Tryz.ntmps116
  go_wp2_with (first | (go_at_call 37; refine (plain_any _ _).mono ?_; rintro e w' ⟨rfl, rfl⟩) | go_in)
  all_goals (simp [bodyPost, results, Tryz.results116, go_sem])
  all_goals (repeat (first | exact Below.refl _ _ | refine wbel_alloc ?_ _))
theorem calc8ff (x y : Int) (w : World) : Calls Tryz.prog 116 #[.int .i8 8, .agg #[.int .i64 x, .bool false], .agg #[.int .i64 y, .bool false]] w fun e w' =>
    e = .returned (.tuple #[.agg #[.int .i64 (bits BinOp.xor IntKind.i64 x y), .bool false], .int .i8 0]) ∧ Below w.heap.size w w' := by
  go_enter Tryz.func116, Tryz.ntmps116
  go_wp2_with (first | (go_at_call 37; refine (plain_any _ _).mono ?_; rintro e w' ⟨rfl, rfl⟩) | go_in)
  all_goals (simp [bodyPost, results, Tryz.results116, go_sem])
  all_goals (repeat (first | exact Below.refl _ _ | refine wbel_alloc ?_ _))
theorem calc8t (x y : Int) (q : Bool) (w : World) : Calls Tryz.prog 116 #[.int .i8 8, .agg #[.int .i64 x, .bool true], .agg #[.int .i64 y, .bool q]] w fun e w' =>
    e = .returned (.tuple #[.agg #[.int .i64 (0), .bool false], .int .i8 4]) ∧ Below w.heap.size w w' := by
  go_enter Tryz.func116, Tryz.ntmps116
  go_wp2_with (first | (go_at_call 37; refine (plain_any _ _).mono ?_; rintro e w' ⟨rfl, rfl⟩) | go_in)
  all_goals (simp [bodyPost, results, Tryz.results116, go_sem])
  all_goals (repeat (first | exact Below.refl _ _ | refine wbel_alloc ?_ _))
theorem calc8ft (x y : Int) (w : World) : Calls Tryz.prog 116 #[.int .i8 8, .agg #[.int .i64 x, .bool false], .agg #[.int .i64 y, .bool true]] w fun e w' =>
    e = .returned (.tuple #[.agg #[.int .i64 (0), .bool false], .int .i8 4]) ∧ Below w.heap.size w w' := by
  go_enter Tryz.func116, Tryz.ntmps116
  go_wp2_with (first | (go_at_call 37; refine (plain_any _ _).mono ?_; rintro e w' ⟨rfl, rfl⟩) | go_in)
  all_goals (simp [bodyPost, results, Tryz.results116, go_sem])
  all_goals (repeat (first | exact Below.refl _ _ | refine wbel_alloc ?_ _))






end Go.Proofs.YtfnicgihpelhhaaGreat

namespace Go.Proofs.YtfnicgihpelhhaaGreat
open Go.RowKit

theorem calc9ff (x y : Int) (w : World) : Calls Tryz.prog 116 #[.int .i8 9, .agg #[.int .i64 x, .bool false], .agg #[.int .i64 y, .bool false]] w fun e w' =>
    e = .returned (.tuple #[.agg #[.int .i64 ((if x < y then 1 else 0)), .bool false], .int .i8 0]) ∧ Below w.heap.size w w' := by
  go_enter Tryz.func116, Tryz.ntmps116
  go_wp2_with (first | (go_at_call 37; refine (plain_any _ _).mono ?_; rintro e w' ⟨rfl, rfl⟩) | go_in)
  all_goals (simp [bodyPost, results, Tryz.results116, go_sem])
  all_goals (repeat (first | exact Below.refl _ _ | refine wbel_alloc ?_ _))
theorem calc9t (x y : Int) (q : Bool) (w : World) : Calls Tryz.prog 116 #[.int .i8 9, .agg #[.int .i64 x, .bool true], .agg #[.int .i64 y, .bool q]] w fun e w' =>
    e = .returned (.tuple #[.agg #[.int .i64 (0), .bool false], .int .i8 4]) ∧ Below w.heap.size w w' := by
  go_enter Tryz.func116, Tryz.ntmps116
  go_wp2_with (first | (go_at_call 37; refine (plain_any _ _).mono ?_; rintro e w' ⟨rfl, rfl⟩) | go_in)
  all_goals (simp [bodyPost, results, Tryz.results116, go_sem])
  all_goals (repeat (first | exact Below.refl _ _ | refine wbel_alloc ?_ _))
theorem calc9ft (x y : Int) (w : World) : Calls Tryz.prog 116 #[.int .i8 9, .agg #[.int .i64 x, .bool false], .agg #[.int .i64 y, .bool true]] w fun e w' =>
    e = .returned (.tuple #[.agg #[.int .i64 (0), .bool false], .int .i8 4]) ∧ Below w.heap.size w w' := by
  go_enter Tryz.func116, Tryz.ntmps116
  go_wp2_with (first | (go_at_call 37; refine (plain_any _ _).mono ?_; rintro e w' ⟨rfl, rfl⟩) | go_in)
  all_goals (simp [bodyPost, results, Tryz.results116, go_sem])
  all_goals (repeat (first | exact Below.refl _ _ | refine wbel_alloc ?_ _))






end Go.Proofs.YtfnicgihpelhhaaGreat

namespace Go.Proofs.YtfnicgihpelhhaaGreat
open Go.RowKit

theorem calc10ttne (x y : Int) (w : World) (h : (x == y) = false) : Calls Tryz.prog 116 #[.int .i8 10, .agg #[.int .i64 x, .bool true], .agg #[.int .i64 y, .bool true]] w fun e w' =>
    e = .returned (.tuple #[.agg #[.int .i64 (0), .bool false], .int .i8 0]) ∧ Below w.heap.size w w' := by
  go_enter Tryz.func116, Tryz.ntmps116
  go_wp2_with (first | (go_at_call 37; refine (plain_any _ _).mono ?_; rintro e w' ⟨rfl, rfl⟩) | go_in)
  all_goals (simp [bodyPost, results, Tryz.results116, go_sem])
  all_goals (repeat (first | exact Below.refl _ _ | refine wbel_alloc ?_ _))
theorem calc10tteq (x : Int) (w : World)  : Calls Tryz.prog 116 #[.int .i8 10, .agg #[.int .i64 x, .bool true], .agg #[.int .i64 x, .bool true]] w fun e w' =>
    e = .returned (.tuple #[.agg #[.int .i64 (1), .bool false], .int .i8 0]) ∧ Below w.heap.size w w' := by
  go_enter Tryz.func116, Tryz.ntmps116
  go_wp2_with (first | (go_at_call 37; refine (plain_any _ _).mono ?_; rintro e w' ⟨rfl, rfl⟩) | go_in)
  all_goals (simp [bodyPost, results, Tryz.results116, go_sem])
  all_goals (repeat (first | exact Below.refl _ _ | refine wbel_alloc ?_ _))
theorem calc10tf (x y : Int) (w : World) : Calls Tryz.prog 116 #[.int .i8 10, .agg #[.int .i64 x, .bool true], .agg #[.int .i64 y, .bool false]] w fun e w' =>
    e = .returned (.tuple #[.agg #[.int .i64 (0), .bool false], .int .i8 4]) ∧ Below w.heap.size w w' := by
  go_enter Tryz.func116, Tryz.ntmps116
  go_wp2_with (first | (go_at_call 37; refine (plain_any _ _).mono ?_; rintro e w' ⟨rfl, rfl⟩) | go_in)
  all_goals (simp [bodyPost, results, Tryz.results116, go_sem])
  all_goals (repeat (first | exact Below.refl _ _ | refine wbel_alloc ?_ _))
theorem calc10ft (x y : Int) (w : World) : Calls Tryz.prog 116 #[.int .i8 10, .agg #[.int .i64 x, .bool false], .agg #[.int .i64 y, .bool true]] w fun e w' =>
    e = .returned (.tuple #[.agg #[.int .i64 (0), .bool false], .int .i8 4]) ∧ Below w.heap.size w w' := by
  go_enter Tryz.func116, Tryz.ntmps116
  go_wp2_with (first | (go_at_call 37; refine (plain_any _ _).mono ?_; rintro e w' ⟨rfl, rfl⟩) | go_in)
  all_goals (simp [bodyPost, results, Tryz.results116, go_sem])
  all_goals (repeat (first | exact Below.refl _ _ | refine wbel_alloc ?_ _))
theorem calc10ffne (x y : Int) (w : World) (h : (x == y) = false) : Calls Tryz.prog 116 #[.int .i8 10, .agg #[.int .i64 x, .bool false], .agg #[.int .i64 y, .bool false]] w fun e w' =>
    e = .returned (.tuple #[.agg #[.int .i64 (0), .bool false], .int .i8 0]) ∧ Below w.heap.size w w' := by
  go_enter Tryz.func116, Tryz.ntmps116
  go_wp2_with (first | (go_at_call 37; refine (plain_any _ _).mono ?_; rintro e w' ⟨rfl, rfl⟩) | go_in)
  all_goals (simp [bodyPost, results, Tryz.results116, go_sem])
  all_goals (repeat (first | exact Below.refl _ _ | refine wbel_alloc ?_ _))
theorem calc10ffeq (x : Int) (w : World)  : Calls Tryz.prog 116 #[.int .i8 10, .agg #[.int .i64 x, .bool false], .agg #[.int .i64 x, .bool false]] w fun e w' =>
    e = .returned (.tuple #[.agg #[.int .i64 (1), .bool false], .int .i8 0]) ∧ Below w.heap.size w w' := by
  go_enter Tryz.func116, Tryz.ntmps116
  go_wp2_with (first | (go_at_call 37; refine (plain_any _ _).mono ?_; rintro e w' ⟨rfl, rfl⟩) | go_in)
  all_goals (simp [bodyPost, results, Tryz.results116, go_sem])
  all_goals (repeat (first | exact Below.refl _ _ | refine wbel_alloc ?_ _))
theorem calcdef (op x y : Int) (p q : Bool) (w : World) (h3 : (op == 3) = false) (h4 : (op == 4) = false) (h5 : (op == 5) = false) (h6 : (op == 6) = false) (h7 : (op == 7) = false) (h8 : (op == 8) = false) (h9 : (op == 9) = false) (h10 : (op == 10) = false) : Calls Tryz.prog 116 #[.int .i8 op, .agg #[.int .i64 x, .bool p], .agg #[.int .i64 y, .bool q]] w fun e w' =>
    e = .returned (.tuple #[.agg #[.int .i64 (0), .bool false], .int .i8 3]) ∧ Below w.heap.size w w' := by
  go_enter Tryz.func116, Tryz.ntmps116
  go_wp2_with (first | (go_at_call 37; refine (plain_any _ _).mono ?_; rintro e w' ⟨rfl, rfl⟩) | go_in)
  all_goals (simp [bodyPost, results, Tryz.results116, go_sem])
  all_goals (repeat (first | exact Below.refl _ _ | refine wbel_alloc ?_ _))






end Go.Proofs.YtfnicgihpelhhaaGreat

namespace Go.Proofs.YtfnicgihpelhhaaGreat
open Go.RowKit

theorem calc_any (op x y : Int) (p q : Bool) (w : World) : Calls Tryz.prog 116 #[.int .i8 op, .agg #[.int .i64 x, .bool p], .agg #[.int .i64 y, .bool q]] w fun e w' =>
    e = .returned (.tuple #[.agg #[.int .i64 (calcV op x y p q), .bool false], .int .i8 (calcE op p q)]) ∧ Below w.heap.size w w' := by
  by_cases h3 : op = 3
  · subst h3
    cases p
    · cases q
      · exact calc3ff x y w
      · exact calc3ft x y w
    · cases q
      · exact calc3t x y false w
      · exact calc3t x y true w
  by_cases h4 : op = 4
  · subst h4
    cases p
    · cases q
      · exact calc4ff x y w
      · exact calc4ft x y w
    · cases q
      · exact calc4t x y false w
      · exact calc4t x y true w
  by_cases h5 : op = 5
  · subst h5
    cases p
    · cases q
      · exact calc5ff x y w
      · exact calc5ft x y w
    · cases q
      · exact calc5t x y false w
      · exact calc5t x y true w
  by_cases h6 : op = 6
  · subst h6
    cases p
    · cases q
      · exact calc6ff x y w
      · exact calc6ft x y w
    · cases q
      · exact calc6t x y false w
      · exact calc6t x y true w
  by_cases h7 : op = 7
  · subst h7
    cases p
    · cases q
      · exact calc7ff x y w
      · exact calc7ft x y w
    · cases q
      · exact calc7t x y false w
      · exact calc7t x y true w
  by_cases h8 : op = 8
  · subst h8
    cases p
    · cases q
      · exact calc8ff x y w
      · exact calc8ft x y w
    · cases q
      · exact calc8t x y false w
      · exact calc8t x y true w
  by_cases h9 : op = 9
  · subst h9
    cases p
    · cases q
      · exact calc9ff x y w
      · exact calc9ft x y w
    · cases q
      · exact calc9t x y false w
      · exact calc9t x y true w
  by_cases h10 : op = 10
  · subst h10
    cases p <;> cases q
    · by_cases hxy : x = y
      · subst hxy
        have e1 : calcV 10 x x false false = 1 := by simp [calcV, calcE]
        rw [e1]
        exact calc10ffeq x w
      · have e1 : calcV 10 x y false false = 0 := by simp [calcV, calcE, hxy]
        rw [e1]
        exact calc10ffne x y w (by simpa using hxy)
    · exact calc10ft x y w
    · exact calc10tf x y w
    · by_cases hxy : x = y
      · subst hxy
        have e1 : calcV 10 x x true true = 1 := by simp [calcV, calcE]
        rw [e1]
        exact calc10tteq x w
      · have e1 : calcV 10 x y true true = 0 := by simp [calcV, calcE, hxy]
        rw [e1]
        exact calc10ttne x y w (by simpa using hxy)
  have e0 : calcE op p q = 3 := by unfold calcE; rw [if_pos (by omega)]
  have e1 : calcV op x y p q = 0 := by unfold calcV; rw [e0]; rfl
  rw [e0, e1]
  exact calcdef op x y p q w (by simpa using h3) (by simpa using h4) (by simpa using h5) (by simpa using h6) (by simpa using h7) (by simpa using h8) (by simpa using h9) (by simpa using h10)






end Go.Proofs.YtfnicgihpelhhaaGreat
