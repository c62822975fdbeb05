/-
  The program's Least keeps its contract.
-/
import Derived.Test.YtokhclindfipbaaGreatDoorProg
import Derived.WalkKit
import Derived.WalkSpells
import Derived.WalkLawsBesides
import Derived.RowKit3
import Derived.Below
import Derived.Deep.QuietTactic
import Derived.BigQuiet
import Derived.WalkSmall
import Derived.Laws.Rows
import Derived.Lib.MinMax
import Derived.OwnWalk
import Derived.Deep.Cut
import Derived.Deep.RegionHeld3
import Derived.Test.YtokhclindfipbaaGreatDoorPa07
namespace Go.Proofs.YtokhclindfipbaaGreatDoor
open Go.RowKit

theorem isplace_any (A : Option Addr) (n c : Nat) (i : Int) (w : World) : Calls Tryz.prog 89 #[.slice A n c, .int .i64 i] w fun e w' => e = .returned (.bool (decide (0 ≤ i ∧ i < (n : Int)))) ∧ w' = w := by
  by_cases h1 : 0 ≤ i
  · by_cases h2 : i < (n : Int)
    · rw [show decide (0 ≤ i ∧ i < (n : Int)) = true from decide_eq_true ⟨h1, h2⟩]
      go_enter Tryz.func89, Tryz.ntmps89
      go_wp2
      go_ret
      exact ⟨rfl, rfl⟩
    · rw [show decide (0 ≤ i ∧ i < (n : Int)) = false from decide_eq_false fun h => h2 h.2]
      go_enter Tryz.func89, Tryz.ntmps89
      go_wp2
      go_ret
      exact ⟨rfl, rfl⟩
  · rw [show decide (0 ≤ i ∧ i < (n : Int)) = false from decide_eq_false fun h => h1 h.1]
    go_enter Tryz.func89, Tryz.ntmps89
    go_wp2
    go_ret
    exact ⟨rfl, rfl⟩
theorem add_addM (X : Addr) (i j : Nat) : (X.add i).add j = X.add (i + j) := by
  unfold Addr.add
  by_cases h : i = 0
  · subst h; simp
  · by_cases h2 : j = 0
    · subst h2; simp [h]
    · simp [h, h2, Nat.add_assoc]
theorem cut_runM (X : Addr) (n c a b : Nat) (h1 : a < b) (h2 : b ≤ n) (h3 : n ≤ c) (w : World) : (Instr.slice 36 (.slice (some X) n c) (some (.int .i64 (a : Int))) (some (.int .i64 (b : Int))) none).run Tryz.prog w = .ok (.slice (some (X.add a)) (b - a) (c - a)) w := by
  rw [run_slice_lh (P := Tryz.prog) w 36 (some X) n c (by kernel_rfl) .i64 .i64 (a : Int) (b : Int) (by omega) (by omega) (by omega)]
  rw [show (sizeOf (Tryz.prog.elem 36)).run Tryz.prog w = .ok 1 w by kernel_rfl]
  show Result.ok (sliced (some X) (a : Int).toNat (b : Int).toNat c 1) w = _
  unfold sliced
  simp
  omega


end Go.Proofs.YtokhclindfipbaaGreatDoor
