/-
  What the statements need of the program: Of, Compare and Most of suffix, by what they answer. lives: four numbers.
-/
import Derived.Test.YtpmaiblgnblpeaaProg
import Derived.WalkKit
import Derived.WalkSpells
import Derived.WalkLawsBesides
import Derived.RowKit3
import Derived.Below
import Derived.Deep.QuietTactic
import Derived.BigQuiet
import Derived.WalkSmall
import Derived.Laws.Rows
import Derived.Test.YtpmaiblgnblpeaaPt08
import Derived.Test.YtpmaiblgnblpeaaPt07
import Derived.Test.YtpmaiblgnblpeaaPt03
import Derived.Deep.Cut
import Derived.Deep.RegionWith
import Derived.Deep.RegionHeld3
import Derived.Test.YtpmaiblgnblpeaaPt12
namespace Go.Proofs.Ytpmaiblgnblpeaa
open Go.RowKit

/-- What Of answers: the array, the ranks, each in memory of its own, and a cost. -/
def OfR (l : List Int) (c : Int) (w : World) (e : Ending) (w' : World) : Prop := ∃ (A1 A2 : Option Addr) (k1 k2 : Nat), e = .returned (.agg #[.slice A1 l.length k1, .slice A2 l.length k2, .int .i64 c]) ∧ w'.ownsRow w.heap.size 3 1 (.slice A1 l.length k1) l.length (iVals .i64 (sufL l)) ∧ w'.ownsRow w.heap.size 3 1 (.slice A2 l.length k2) l.length (iVals .i64 (rkL l)) ∧ Off (Value.slice A1 l.length k1).ownBlock (Value.slice A2 l.length k2).ownBlock ∧ Below w.heap.size w w'
structure OfOK (cst : List Int → Int) : Prop where
  ok : ∀ (A : Option Addr) (c : Nat) (l : List Int) (w : World), IntsAt w A .i64 l → (∀ i, i < l.length → -9223372036854775808 ≤ nth l i ∧ nth l i ≤ 9223372036854775807) → l.length ≤ 2048 → Calls Try.prog 13 #[.slice A l.length c] w (OfR l (cst l) w)
  few : 3 ≤ cst [3, 1, 3, 1] ∧ cst [3, 1, 3, 1] ≤ 384
/-- How much it may cost. -/
def CostOK (cst : List Int → Int) : Prop := ∀ l : List Int, l.length ≤ 2048 → 0 ≤ cst l ∧ (l.length : Int) - 1 ≤ cst l ∧ cst l ≤ mostI (l.length : Int)

end Go.Proofs.Ytpmaiblgnblpeaa

namespace Go.Proofs.Ytpmaiblgnblpeaa
open Go.RowKit

def T4 : List Int := [3, 1, 3, 1]
theorem T4_suf : sufN T4 = [3, 1, 2, 0] := (sufN_uniq ⟨by decide, by decide⟩).symm
theorem T4_sufL : sufL T4 = [3, 1, 2, 0] := by unfold sufL; rw [T4_suf]; rfl
theorem T4_rkL : rkL T4 = [3, 1, 2, 0] := by
  unfold rkL rkN
  rw [T4_suf]
  decide
theorem bits4 : bitsN 4 = 3 := by
  rw [bitsN_pos (by omega), bitsN_pos (by omega), bitsN_pos (by omega), show 4 / 2 / 2 / 2 = 0 from rfl, bitsN_zero]
theorem bits5 : bitsN 5 = 3 := by
  rw [bitsN_pos (by omega), bitsN_pos (by omega), bitsN_pos (by omega), show 5 / 2 / 2 / 2 = 0 from rfl, bitsN_zero]
theorem most4 : mostI 4 = 384 := by
  unfold mostI
  rw [if_neg (by omega), show (4 : Int).toNat = 4 from rfl, bits4]; rfl
theorem most5 : mostI 5 = 480 := by
  unfold mostI
  rw [if_neg (by omega), show (5 : Int).toNat = 5 from rfl, bits5]; rfl
theorem cmp12 : cmpS [1, 2] 0 1 = -1 := by decide
theorem small_range (l : List Int) (h : ∀ x ∈ l, 0 ≤ x ∧ x ≤ 9) : ∀ i, i < l.length → -9223372036854775808 ≤ nth l i ∧ nth l i ≤ 9223372036854775807 := fun i hi => by
  have : nth l i ∈ l := by simp [nth, hi]
  have := h _ this
  omega
theorem four_at (k : IntKind) (T : Nat) (w : World) (a b c d : Int) : IntsAt (w.alloc (.cells #[.int k a, .int k b, .int k c, .int k d] T)) (some ⟨w.heap.size, 0, none⟩) k [a, b, c, d] := fun i hi => by
  have hi : i = 0 ∨ i = 1 ∨ i = 2 ∨ i = 3 := by simp at hi; omega
  rcases hi with rfl | rfl | rfl | rfl <;> exact ⟨_, rfl, by simp [go_sem, nth, Addr.add]⟩
theorem two_at (k : IntKind) (T : Nat) (w : World) (a b : Int) : IntsAt (w.alloc (.cells #[.int k a, .int k b] T)) (some ⟨w.heap.size, 0, none⟩) k [a, b] := fun i hi => by
  have hi : i = 0 ∨ i = 1 := by simp at hi; omega
  rcases hi with rfl | rfl <;> exact ⟨_, rfl, by simp [go_sem, nth, Addr.add]⟩
theorem ints_drew {w : World} {A : Option Addr} {k : IntKind} {l : List Int} (h : IntsAt w A k l) : IntsAt w.drew A k l := h

end Go.Proofs.Ytpmaiblgnblpeaa
