/-
  What the document asks of a calculation, as two plain functions: the value and the fault; no condition.
-/
import Derived.Test.YtgkdagnpefgjcaaGreatProg
import Derived.Test.YtgkdagnpefgjcaaGreatPr19
namespace Go.Proofs.YtgkdagnpefgjcaaGreat
open Go.RowKit

/-- The fault of a calculation: 0 is none. -/
def calcE (op : Int) (p q : Bool) : Int := if op < 3 ∨ 10 < op then 3 else if op = 10 then (if p = q then 0 else 4) else if p || q then 4 else 0

/-- The number of a calculation; 0 where it faults. -/
def calcV (op x y : Int) (p q : Bool) : Int :=
  if calcE op p q = 0 then
    (if op = 3 then wrap64 (x + y) else if op = 4 then wrap64 (x - y) else if op = 5 then wrap64 (x * y) else if op = 6 then bits BinOp.and IntKind.i64 x y
      else if op = 7 then bits BinOp.or IntKind.i64 x y else if op = 8 then bits BinOp.xor IntKind.i64 x y else if op = 9 then (if x < y then 1 else 0) else (if x = y then 1 else 0))
  else 0




end Go.Proofs.YtgkdagnpefgjcaaGreat
