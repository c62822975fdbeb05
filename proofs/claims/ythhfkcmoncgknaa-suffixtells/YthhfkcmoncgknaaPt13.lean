/-
  What the statements need of the program: Of, Compare and Most of suffix, by what they answer.
-/
import Derived.Test.YthhfkcmoncgknaaProg
import Derived.WalkKit
import Derived.WalkSpells
import Derived.WalkLawsBesides
import Derived.RowKit3
import Derived.Below
import Derived.Deep.QuietTactic
import Derived.BigQuiet
import Derived.WalkSmall
import Derived.Laws.Rows
import Derived.Test.YthhfkcmoncgknaaPt05
import Derived.Test.YthhfkcmoncgknaaPt11
import Derived.Test.YthhfkcmoncgknaaPt12
namespace Go.Proofs.Ythhfkcmoncgknaa
open Go.RowKit

/-- What Of answers: the array, the ranks, each in memory of its own, and a cost. -/
def OfR (l : List Int) (c : Int) (w : World) (e : Ending) (w' : World) : Prop := ∃ (A1 A2 : Option Addr) (k1 k2 : Nat), e = .returned (.agg #[.slice A1 l.length k1, .slice A2 l.length k2, .int .i64 c]) ∧ w'.ownsRow w.heap.size 3 1 (.slice A1 l.length k1) l.length (iVals .i64 (sufL l)) ∧ w'.ownsRow w.heap.size 3 1 (.slice A2 l.length k2) l.length (iVals .i64 (rkL l)) ∧ Off (Value.slice A1 l.length k1).ownBlock (Value.slice A2 l.length k2).ownBlock ∧ Below w.heap.size w w'
structure OfOK (cst : List Int → Int) : Prop where
  ok : ∀ (A : Option Addr) (c : Nat) (l : List Int) (w : World), IntsAt w A .i64 l → (∀ i, i < l.length → -9223372036854775808 ≤ nth l i ∧ nth l i ≤ 9223372036854775807) → l.length ≤ 2048 → Calls Try.prog 13 #[.slice A l.length c] w (OfR l (cst l) w)
  few : 3 ≤ cst [3, 1, 3, 1] ∧ cst [3, 1, 3, 1] ≤ 384
/-- How much it may cost. -/
def CostOK (cst : List Int → Int) : Prop := ∀ l : List Int, l.length ≤ 2048 → 0 ≤ cst l ∧ (l.length : Int) - 1 ≤ cst l ∧ cst l ≤ mostI (l.length : Int)
def CompareOK : Prop := ∀ (A : Option Addr) (c : Nat) (l : List Int) (i k : Int) (w : World), IntsAt w A .i64 l → l.length ≤ 65536 → l.length ≤ c → (-9223372036854775808 ≤ i ∧ i ≤ 9223372036854775807) → (-9223372036854775808 ≤ k ∧ k ≤ 9223372036854775807) → Calls Try.prog 7 #[.slice A l.length c, .int .i64 i, .int .i64 k] w fun e w' => e = .returned (.int .i64 (cmpS l i k)) ∧ Below w.heap.size w w'
def MostOK : Prop := ∀ (n : Int) (w : World), -9223372036854775808 ≤ n → n ≤ 9223372036854775807 → Calls Try.prog 9 #[.int .i64 n] w fun e w' => e = .returned (.int .i64 (mostI n)) ∧ Below w.heap.size w w'
def LivesOK : Prop := ∀ w : World, Calls Try.prog 5 #[] w fun e w' => e = .returned (.bool true) ∧ Below w.heap.size w w'

end Go.Proofs.Ythhfkcmoncgknaa
