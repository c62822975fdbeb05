/-
  What the statements need of the program: Prefixes, Least and Group of common, by what they answer.
-/
import Derived.Test.YtokhclindfipbaaProg
import Derived.WalkKit
import Derived.WalkSpells
import Derived.WalkLawsBesides
import Derived.RowKit3
import Derived.Below
import Derived.Deep.QuietTactic
import Derived.BigQuiet
import Derived.WalkSmall
import Derived.Laws.Rows
import Derived.Test.YtokhclindfipbaaPr10
import Derived.Test.YtokhclindfipbaaPr15
import Derived.Test.YtokhclindfipbaaPr03
namespace Go.Proofs.Ytokhclindfipbaa
open Go.RowKit

def Rng (i : Int) : Prop := -9223372036854775808 ≤ i ∧ i ≤ 9223372036854775807
/-- What Prefixes answers of a list and its array. -/
def PxR (l : List Int) (w : World) (e : Ending) (w' : World) : Prop := ∃ (A : Option Addr) (k : Nat), e = .returned (.tuple #[.slice A l.length k, .int .i64 (ccI l), .int .i64 0]) ∧ w'.ownsRow w.heap.size 3 1 (.slice A l.length k) l.length (iVals .i64 (cpA l)) ∧ Below w.heap.size w w'
def PxN (w : World) (e : Ending) (w' : World) : Prop := e = .returned (.tuple #[.slice none 0 0, .int .i64 0, .int .i64 1]) ∧ Below w.heap.size w w'
structure PrefixesOK : Prop where
  ok : ∀ (A B : Option Addr) (c d : Nat) (l : List Int) (w : World), IntsAt w A .i64 l → (∀ i, i < l.length → Rng (nth l i)) → l.length ≤ 2048 → IntsAt w B .i64 (sufL l) → Calls Try.prog 41 #[.slice A l.length c, .slice B l.length d] w (PxR l w)
  no : ∀ (A B : Option Addr) (c d : Nat) (l a : List Int) (w : World), IntsAt w A .i64 l → (∀ i, i < l.length → Rng (nth l i)) → l.length ≤ 2048 → IntsAt w B .i64 a → a.length ≤ 2048 → a ≠ sufL l → Calls Try.prog 41 #[.slice A l.length c, .slice B a.length d] w (PxN w)
def LeR (a b : Int) (w : World) (e : Ending) (w' : World) : Prop := e = .returned (.tuple #[.int .i64 a, .int .i64 b]) ∧ Below w.heap.size w w'
def GrR (a b c : Int) (w : World) (e : Ending) (w' : World) : Prop := e = .returned (.tuple #[.int .i64 a, .int .i64 b, .int .i64 c]) ∧ Below w.heap.size w w'
def GroupOK : Prop := ∀ (A : Option Addr) (c : Nat) (p : List Int) (i n : Int) (w : World), IntsAt w A .i64 p → p.length ≤ 16384 → Rng i → Rng n → Calls Try.prog 43 #[.slice A p.length c, .int .i64 i, .int .i64 n] w (GrR (gpF p i n) (gpT p i n) (gpE p i n) w)

end Go.Proofs.Ytokhclindfipbaa
