/-
  What is wrong with an object first, as plain mathematics; no Go in sight.
-/
import Derived.Test.YtbphfgalgiinnaaObMath
import Derived.Test.YtbphfgalgiinnaaIns
namespace Go.Proofs.Ytbphfgalgiinnaa
open Go.RowKit

/-- What is wrong with a relocation: where it is; what stands there. -/
def relE (zs : List Rel) (code : List Int) (ns : Nat) (k : Nat) : Int := if rAt zs k < 0 ∨ (code.length : Int) ≤ rAt zs k ∨ (0 < k ∧ rAt zs k ≤ rAt zs (k - 1)) ∨ rSym zs k < 0 ∨ (ns : Int) ≤ rSym zs k then 24 else if isT (nth code (rAt zs k).toNat) = false ∨ ¬ tgV (nth code (rAt zs k).toNat) = 0 then 24 else 0
def relC (zs : List Rel) (code : List Int) (ns : Nat) : Int × Int := firstOf zs.length (relE zs code ns)
/-- A target that lies outside. -/
def relBad (zs : List Rel) (nc ns : Nat) (k : Nat) : Bool := decide (rAt zs k < 0 ∨ (nc : Int) ≤ rAt zs k ∨ (0 < k ∧ rAt zs k ≤ rAt zs (k - 1)) ∨ rSym zs k < 0 ∨ (ns : Int) ≤ rSym zs k)
def codE (code : List Int) (k : Nat) : Int := if isT (nth code k) = true ∧ (code.length : Int) < tgV (nth code k) then 22 else 0
def codC (code : List Int) : Int × Int := if (firstOf code.length (codE code)).1 = 0 then (0, 0) else (22, -1 - (firstOf code.length (codE code)).2)
def checkC (nm : ByteArray) (code : List Int) (dA : Int) (nd : Nat) (ss : List Sym) (rs : List Rel) : Int × Int :=
  if ¬ (sizeC (nameOK nm) code.length ss.length rs.length nd dA).1 = 0 then sizeC (nameOK nm) code.length ss.length rs.length nd dA
  else if ¬ (symC ss code.length).1 = 0 then symC ss code.length
  else if ¬ (relC rs code ss.length).1 = 0 then relC rs code ss.length
  else codC code


end Go.Proofs.Ytbphfgalgiinnaa
