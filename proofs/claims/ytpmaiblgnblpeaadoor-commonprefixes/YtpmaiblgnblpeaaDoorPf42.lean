/-
  THE LAW SuffixOf, over the program's contracts.
-/
import Derived.Test.YtpmaiblgnblpeaaDoorProg
import Derived.WalkKit
import Derived.WalkSpells
import Derived.WalkLawsBesides
import Derived.RowKit3
import Derived.Below
import Derived.Deep.QuietTactic
import Derived.BigQuiet
import Derived.WalkSmall
import Derived.Laws.Rows
import Derived.Deep.Cut
import Derived.Deep.RegionHeld3
import Derived.Test.YtpmaiblgnblpeaaDoorPf41
import Derived.Test.YtpmaiblgnblpeaaDoorPf19
import Derived.Test.YtpmaiblgnblpeaaDoorPf28
import Derived.Test.YtpmaiblgnblpeaaDoorPf17
namespace Go.Proofs.YtpmaiblgnblpeaaDoor
open Go.RowKit

theorem Fr.below {qs : List (Value × Nat)} {w w1 w2 : World} {n : Nat} (h : Fr qs w1 w2) (hb : Below n w w1) (hn : n ≤ w1.heap.size) (hq : ∀ m, m < qs.length → ∀ b, (rv qs m).ownBlock = some b → n ≤ b) : Below n w w2 :=
  ⟨h.os.trans hb.os, h.tape.trans hb.tape, h.output.trans hb.output, Nat.le_trans hb.size h.size, fun b hlt => (h.block b (by omega) (fun m hm e => by have := hq m hm b e; omega)).trans (hb.block b hlt)⟩
/-- Two lists in a bag. -/
theorem sep_two {a b : Value} {la lb : Nat} (h : Off a.ownBlock b.ownBlock) : Sep [(a, la), (b, lb)] := fun m m' h1 h2 => by
  have hm : m = 0 ∧ m' = 1 := by simp at h2; omega
  obtain ⟨rfl, rfl⟩ := hm
  exact h
theorem two_all {P : Nat → Prop} (h0 : P 0) (h1 : P 1) (m : Nat) (hm : m < 2) : P m := by
  have hq : m = 0 ∨ m = 1 := by omega
  rcases hq with rfl | rfl
  · exact h0
  · exact h1
theorem rl_two {a b : Value} {la lb M : Nat} (ha : la ≤ M) (hb : lb ≤ M) (m : Nat) : rl [(a, la), (b, lb)] m ≤ M := by
  have hq : m = 0 ∨ m = 1 ∨ 2 ≤ m := by omega
  rcases hq with rfl | rfl | h
  · exact ha
  · exact hb
  · unfold rl
    rw [List.getD_eq_getElem?_getD, List.getElem?_eq_none (by simp; omega)]
    exact Nat.zero_le _
theorem bag_new (w : World) : BagIs (w.alloc (.cells #[.slice none 0 0, .slice none 0 0, .slice none 0 0, .slice none 0 0, .slice none 0 0, .slice none 0 0, .slice none 0 0, .slice none 0 0, .slice none 0 0, .slice none 0 0, .slice none 0 0, .slice none 0 0, .slice none 0 0, .slice none 0 0, .slice none 0 0, .slice none 0 0, .slice none 0 0] 52)) w.heap.size (fun _ => .slice none 0 0) := by
  refine ⟨_, heap_alloc_new _ _, fun k hk => ?_⟩
  have hq : k = 0 ∨ k = 1 ∨ k = 2 ∨ k = 3 ∨ k = 4 ∨ k = 5 ∨ k = 6 ∨ k = 7 ∨ k = 8 ∨ k = 9 ∨ k = 10 ∨ k = 11 ∨ k = 12 ∨ k = 13 ∨ k = 14 ∨ k = 15 ∨ k = 16 := by omega
  rcases hq with rfl | rfl | rfl | rfl | rfl | rfl | rfl | rfl | rfl | rfl | rfl | rfl | rfl | rfl | rfl | rfl | rfl <;> rfl


theorem sep_four {a b c d : Value} {la lb lc ld : Nat} (h1 : Off a.ownBlock b.ownBlock) (h2 : Off a.ownBlock c.ownBlock) (h3 : Off a.ownBlock d.ownBlock) (h4 : Off b.ownBlock c.ownBlock) (h5 : Off b.ownBlock d.ownBlock) (h6 : Off c.ownBlock d.ownBlock) : Sep [(a, la), (b, lb), (c, lc), (d, ld)] := fun m m' h x => by
  have x : m' < 4 := by simpa using x
  have hm : (m = 0 ∧ m' = 1) ∨ (m = 0 ∧ m' = 2) ∨ (m = 0 ∧ m' = 3) ∨ (m = 1 ∧ m' = 2) ∨ (m = 1 ∧ m' = 3) ∨ (m = 2 ∧ m' = 3) := by omega
  rcases hm with ⟨rfl, rfl⟩ | ⟨rfl, rfl⟩ | ⟨rfl, rfl⟩ | ⟨rfl, rfl⟩ | ⟨rfl, rfl⟩ | ⟨rfl, rfl⟩
  · exact h1
  · exact h2
  · exact h3
  · exact h4
  · exact h5
  · exact h6
theorem four_all {P : Nat → Prop} (h0 : P 0) (h1 : P 1) (h2 : P 2) (h3 : P 3) (m : Nat) (hm : m < 4) : P m := by
  have hq : m = 0 ∨ m = 1 ∨ m = 2 ∨ m = 3 := by omega
  rcases hq with rfl | rfl | rfl | rfl
  · exact h0
  · exact h1
  · exact h2
  · exact h3
theorem rl_four {a b c d : Value} {n M : Nat} (h : n ≤ M) (m : Nat) : rl [(a, n), (b, n), (c, n), (d, n)] m ≤ M := by
  have hq : m = 0 ∨ m = 1 ∨ m = 2 ∨ m = 3 ∨ 4 ≤ m := by omega
  rcases hq with rfl | rfl | rfl | rfl | x
  · exact h
  · exact h
  · exact h
  · exact h
  · unfold rl
    rw [List.getD_eq_getElem?_getD, List.getElem?_eq_none (by simp; omega)]
    exact Nat.zero_le _
theorem off_late {w w' : World} {b b' n c n' c' : Nat} {A B : Option Addr} {xs ys : List Value} (h1 : w.ownsRow b 3 1 (.slice A n c) n xs) (h2 : w'.ownsRow b' 3 1 (.slice B n' c') n' ys) (hb : w.heap.size ≤ b') : Off (Value.slice A n c).ownBlock (Value.slice B n' c').ownBlock := fun k e1 e2 => by
  have := own_lt h1 e1
  have := (h2.lt k e2).1
  omega

end Go.Proofs.YtpmaiblgnblpeaaDoor
