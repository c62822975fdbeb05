/-
  What the statements need of the program: Of, Compare and Most of suffix, by what they answer. Plain: both costs together.
-/
import Derived.Test.YtpmaiblgnblpeaaProg
import Derived.WalkKit
import Derived.WalkSpells
import Derived.WalkLawsBesides
import Derived.RowKit3
import Derived.Below
import Derived.Deep.QuietTactic
import Derived.BigQuiet
import Derived.WalkSmall
import Derived.Laws.Rows
import Derived.Test.YtpmaiblgnblpeaaPr08
import Derived.Test.YtpmaiblgnblpeaaPr07
import Derived.Test.YtpmaiblgnblpeaaPr03
import Derived.Test.YtpmaiblgnblpeaaPr04
namespace Go.Proofs.Ytpmaiblgnblpeaa
open Go.RowKit

/-- What Of answers: the array, the ranks, each in memory of its own, and a cost. -/
def OfR (l : List Int) (c : Int) (w : World) (e : Ending) (w' : World) : Prop := ∃ (A1 A2 : Option Addr) (k1 k2 : Nat), e = .returned (.agg #[.slice A1 l.length k1, .slice A2 l.length k2, .int .i64 c]) ∧ w'.ownsRow w.heap.size 3 1 (.slice A1 l.length k1) l.length (iVals .i64 (sufL l)) ∧ w'.ownsRow w.heap.size 3 1 (.slice A2 l.length k2) l.length (iVals .i64 (rkL l)) ∧ Off (Value.slice A1 l.length k1).ownBlock (Value.slice A2 l.length k2).ownBlock ∧ Below w.heap.size w w'
structure OfOK (cst : List Int → Int) : Prop where
  ok : ∀ (A : Option Addr) (c : Nat) (l : List Int) (w : World), IntsAt w A .i64 l → (∀ i, i < l.length → -9223372036854775808 ≤ nth l i ∧ nth l i ≤ 9223372036854775807) → l.length ≤ 2048 → Calls Try.prog 13 #[.slice A l.length c] w (OfR l (cst l) w)
  few : 3 ≤ cst [3, 1, 3, 1] ∧ cst [3, 1, 3, 1] ≤ 384
/-- How much it may cost. -/
def CostOK (cst : List Int → Int) : Prop := ∀ l : List Int, l.length ≤ 2048 → 0 ≤ cst l ∧ (l.length : Int) - 1 ≤ cst l ∧ cst l ≤ mostI (l.length : Int)

end Go.Proofs.Ytpmaiblgnblpeaa

namespace Go.Proofs.Ytpmaiblgnblpeaa
open Go.RowKit

theorem cost_both {n : Nat} (hn : n ≤ 60) {cs cc : Int} (h1 : 0 ≤ cs) (h2 : cs ≤ mostI (n : Int)) (h3 : 0 ≤ cc) (h4 : cc ≤ 2 * (n : Int)) : ∃ B Q1 Q2 : Int, ((bitsN n : Nat) : Int) + 1 = B ∧ 1 ≤ B ∧ B ≤ 7 ∧ 8 * (n : Int) * B = Q1 ∧ Q1 * B = Q2 ∧ 0 ≤ Q1 ∧ Q1 ≤ 3360 ∧ 0 ≤ Q2 ∧ Q2 ≤ 23520 ∧ cs + cc ≤ Q2 ∧ cs ≤ 17640 ∧ cc ≤ 120 := by
  have hb : bitsN n ≤ 6 := bitsN_le (by omega)
  unfold mostI at h2
  simp only [Int.toNat_natCast] at h2
  generalize bitsN n = b at *
  have hq : b = 0 ∨ b = 1 ∨ b = 2 ∨ b = 3 ∨ b = 4 ∨ b = 5 ∨ b = 6 := by omega
  rcases hq with rfl | rfl | rfl | rfl | rfl | rfl | rfl
  all_goals (
    refine ⟨_, _, _, rfl, by omega, by omega, rfl, rfl, ?_⟩
    by_cases h0 : (n : Int) < 1 ∨ 16384 < (n : Int)
    · rw [if_pos h0] at h2
      omega
    · rw [if_neg h0] at h2
      omega)

end Go.Proofs.Ytpmaiblgnblpeaa
