/-
  Calc of the document's answer returns what the two plain functions say, for every op and two words; no condition.
-/
import Derived.Test.YtbdmhhejpomeiaaDoorAns
import Derived.Test.YtbdmhhejpomeiaaDoorRefCalc0
import Derived.Test.YtbdmhhejpomeiaaDoorRefCalc1
import Derived.Test.YtbdmhhejpomeiaaDoorRefCalc2
import Derived.Test.YtbdmhhejpomeiaaDoorRefCalc3
import Derived.Test.YtbdmhhejpomeiaaDoorRefCalc4
namespace Go.Proofs.YtbdmhhejpomeiaaDoor
open Go.RowKit

theorem refcalc_any (op x y : Int) (p q : Bool) (w : World) : Calls Tryd.prog 8 #[.int .i8 op, .agg #[.int .i64 x, .bool p], .agg #[.int .i64 y, .bool q]] w fun e w' =>
    e = .returned (.tuple #[.agg #[.int .i64 (calcV op x y p q), .bool false], .int .i8 (calcE op p q)]) ∧ Below w.heap.size w w' := by
  by_cases h3 : op = 3
  · subst h3
    cases p
    · cases q
      · exact refcalc3ff x y w
      · exact refcalc3ft x y w
    · cases q
      · exact refcalc3t x y false w
      · exact refcalc3t x y true w
  by_cases h4 : op = 4
  · subst h4
    cases p
    · cases q
      · exact refcalc4ff x y w
      · exact refcalc4ft x y w
    · cases q
      · exact refcalc4t x y false w
      · exact refcalc4t x y true w
  by_cases h5 : op = 5
  · subst h5
    cases p
    · cases q
      · exact refcalc5ff x y w
      · exact refcalc5ft x y w
    · cases q
      · exact refcalc5t x y false w
      · exact refcalc5t x y true w
  by_cases h6 : op = 6
  · subst h6
    cases p
    · cases q
      · exact refcalc6ff x y w
      · exact refcalc6ft x y w
    · cases q
      · exact refcalc6t x y false w
      · exact refcalc6t x y true w
  by_cases h7 : op = 7
  · subst h7
    cases p
    · cases q
      · exact refcalc7ff x y w
      · exact refcalc7ft x y w
    · cases q
      · exact refcalc7t x y false w
      · exact refcalc7t x y true w
  by_cases h8 : op = 8
  · subst h8
    cases p
    · cases q
      · exact refcalc8ff x y w
      · exact refcalc8ft x y w
    · cases q
      · exact refcalc8t x y false w
      · exact refcalc8t x y true w
  by_cases h9 : op = 9
  · subst h9
    cases p
    · cases q
      · exact refcalc9ff x y w
      · exact refcalc9ft x y w
    · cases q
      · exact refcalc9t x y false w
      · exact refcalc9t x y true w
  by_cases h10 : op = 10
  · subst h10
    cases p <;> cases q
    · exact refcalc10ff x y w
    · exact refcalc10ft x y w
    · exact refcalc10tf x y w
    · exact refcalc10tt x y w
  have e0 : calcE op p q = 3 := by unfold calcE; rw [if_pos (by omega)]
  have e1 : calcV op x y p q = 0 := by unfold calcV; rw [e0]; rfl
  rw [e0, e1]
  by_cases hl : op < 3
  · exact refcalclo op x y p q w hl
  · exact refcalchi op x y p q w hl (by omega)

end Go.Proofs.YtbdmhhejpomeiaaDoor
