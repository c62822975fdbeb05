/-
  Where an instruction goes, as plain functions of numbers; no Go in sight.
-/
import Derived.Test.YthhfkcmoncgknaaProg
import Derived.Test.YthhfkcmoncgknaaPo21
namespace Go.Proofs.Ythhfkcmoncgknaa
open Go.RowKit

/-- Does an op end a block? -/
def endsB (op : Int) : Bool := decide (op = -1 ∨ op = 0 ∨ op = 15 ∨ op = 16 ∨ op = 17 ∨ op = 18 ∨ op = 19 ∨ op = 21)
/-- Is a word one with a place? -/
def isT (w : Int) : Bool := decide (0 ≤ dOp w) && hP (dOp w)
def tgV (w : Int) : Int := if isT w then dN w else 0
/-- Aim's word and error. -/
def aimV (w p : Int) : Int := if isT w && decide (0 ≤ p ∧ p < 16384) then encV (dOp w) (dD w) (dA w) (dB w) p else 0
def aimE (w p : Int) : Int := if isT w then (if decide (0 ≤ p ∧ p < 16384) then encE (dOp w) (dD w) (dA w) (dB w) p else 11) else 10









end Go.Proofs.Ythhfkcmoncgknaa
