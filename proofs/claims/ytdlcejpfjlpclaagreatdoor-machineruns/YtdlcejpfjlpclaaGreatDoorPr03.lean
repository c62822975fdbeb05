/-
  Calc of package word at Same, and at ops that it does not know, by a walk of its text; no condition. The statements' own small test, works, returns true and leaves what was there; no condition. Address of package word and of the document's answer return the same two numbers for every word, number and size, and the law over them returns true; no condition.
-/
import Derived.Test.YtdlcejpfjlpclaaGreatDoorProg
import Derived.Test.YtdlcejpfjlpclaaGreatDoorPr02
import Derived.Outline
import Derived.StillTactics
import Derived.Laws.Pointers
import Derived.Deep.RegionHeld3
namespace Go.Proofs.YtdlcejpfjlpclaaGreatDoor
open Go.RowKit

theorem calc10ttne (x y : Int) (w : World) (h : (x == y) = false) : Calls Tryz.prog 97 #[.int .i8 10, .agg #[.int .i64 x, .bool true], .agg #[.int .i64 y, .bool true]] w fun e w' =>
    e = .returned (.tuple #[.agg #[.int .i64 (0), .bool false], .int .i8 0]) ∧ Below w.heap.size w w' := by
  go_enter Tryz.func97, Tryz.ntmps97
  go_wp2_with (first | (go_at_call 26; refine (plain_any _ _).mono ?_; rintro e w' ⟨rfl, rfl⟩) | go_in)
  all_goals (simp [bodyPost, results, Tryz.results97, go_sem])
  all_goals (repeat (first | exact Below.refl _ _ | refine wbel_alloc ?_ _))
theorem calc10tteq (x : Int) (w : World)  : Calls Tryz.prog 97 #[.int .i8 10, .agg #[.int .i64 x, .bool true], .agg #[.int .i64 x, .bool true]] w fun e w' =>
    e = .returned (.tuple #[.agg #[.int .i64 (1), .bool false], .int .i8 0]) ∧ Below w.heap.size w w' := by
  go_enter Tryz.func97, Tryz.ntmps97
  go_wp2_with (first | (go_at_call 26; refine (plain_any _ _).mono ?_; rintro e w' ⟨rfl, rfl⟩) | go_in)
  all_goals (simp [bodyPost, results, Tryz.results97, go_sem])
  all_goals (repeat (first | exact Below.refl _ _ | refine wbel_alloc ?_ _))
theorem calc10tf (x y : Int) (w : World) : Calls Tryz.prog 97 #[.int .i8 10, .agg #[.int .i64 x, .bool true], .agg #[.int .i64 y, .bool false]] w fun e w' =>
    e = .returned (.tuple #[.agg #[.int .i64 (0), .bool false], .int .i8 4]) ∧ Below w.heap.size w w' := by
  go_enter Tryz.func97, Tryz.ntmps97
  go_wp2_with (first | (go_at_call 26; refine (plain_any _ _).mono ?_; rintro e w' ⟨rfl, rfl⟩) | go_in)
  all_goals (simp [bodyPost, results, Tryz.results97, go_sem])
  all_goals (repeat (first | exact Below.refl _ _ | refine wbel_alloc ?_ _))
theorem calc10ft (x y : Int) (w : World) : Calls Tryz.prog 97 #[.int .i8 10, .agg #[.int .i64 x, .bool false], .agg #[.int .i64 y, .bool true]] w fun e w' =>
    e = .returned (.tuple #[.agg #[.int .i64 (0), .bool false], .int .i8 4]) ∧ Below w.heap.size w w' := by
  go_enter Tryz.func97, Tryz.ntmps97
  go_wp2_with (first | (go_at_call 26; refine (plain_any _ _).mono ?_; rintro e w' ⟨rfl, rfl⟩) | go_in)
  all_goals (simp [bodyPost, results, Tryz.results97, go_sem])
  all_goals (repeat (first | exact Below.refl _ _ | refine wbel_alloc ?_ _))
theorem calc10ffne (x y : Int) (w : World) (h : (x == y) = false) : Calls Tryz.prog 97 #[.int .i8 10, .agg #[.int .i64 x, .bool false], .agg #[.int .i64 y, .bool false]] w fun e w' =>
    e = .returned (.tuple #[.agg #[.int .i64 (0), .bool false], .int .i8 0]) ∧ Below w.heap.size w w' := by
  go_enter Tryz.func97, Tryz.ntmps97
  go_wp2_with (first | (go_at_call 26; refine (plain_any _ _).mono ?_; rintro e w' ⟨rfl, rfl⟩) | go_in)
  all_goals (simp [bodyPost, results, Tryz.results97, go_sem])
  all_goals (repeat (first | exact Below.refl _ _ | refine wbel_alloc ?_ _))
theorem calc10ffeq (x : Int) (w : World)  : Calls Tryz.prog 97 #[.int .i8 10, .agg #[.int .i64 x, .bool false], .agg #[.int .i64 x, .bool false]] w fun e w' =>
    e = .returned (.tuple #[.agg #[.int .i64 (1), .bool false], .int .i8 0]) ∧ Below w.heap.size w w' := by
  go_enter Tryz.func97, Tryz.ntmps97
  go_wp2_with (first | (go_at_call 26; refine (plain_any _ _).mono ?_; rintro e w' ⟨rfl, rfl⟩) | go_in)
  all_goals (simp [bodyPost, results, Tryz.results97, go_sem])
  all_goals (repeat (first | exact Below.refl _ _ | refine wbel_alloc ?_ _))
theorem calcdef (op x y : Int) (p q : Bool) (w : World) (h3 : (op == 3) = false) (h4 : (op == 4) = false) (h5 : (op == 5) = false) (h6 : (op == 6) = false) (h7 : (op == 7) = false) (h8 : (op == 8) = false) (h9 : (op == 9) = false) (h10 : (op == 10) = false) : Calls Tryz.prog 97 #[.int .i8 op, .agg #[.int .i64 x, .bool p], .agg #[.int .i64 y, .bool q]] w fun e w' =>
    e = .returned (.tuple #[.agg #[.int .i64 (0), .bool false], .int .i8 3]) ∧ Below w.heap.size w w' := by
  go_enter Tryz.func97, Tryz.ntmps97
  go_wp2_with (first | (go_at_call 26; refine (plain_any _ _).mono ?_; rintro e w' ⟨rfl, rfl⟩) | go_in)
  all_goals (simp [bodyPost, results, Tryz.results97, go_sem])
  all_goals (repeat (first | exact Below.refl _ _ | refine wbel_alloc ?_ _))


end Go.Proofs.YtdlcejpfjlpclaaGreatDoor

namespace Go.Proofs.YtdlcejpfjlpclaaGreatDoor
open Go.RowKit

theorem wbel_trans {w w1 w2 : World} (h : Below w.heap.size w w1) (k : Below w1.heap.size w1 w2) : Below w.heap.size w w2 := h.trans (k.mono h.size)

theorem wcell_keep {w w1 : World} (h : Below w.heap.size w w1) {b o : Nat} {v : Value} (hc : w.cell? ⟨b, o, none⟩ = some v) : w1.cell? ⟨b, o, none⟩ = some v := by
  rw [h.cell (p := ⟨b, o, none⟩) (World.block_lt_of_cell? w _ hc)]; exact hc

theorem add23 (w : World) : Calls Tryz.prog 97 #[.int .i8 3, .agg #[.int .i64 2, .bool false], .agg #[.int .i64 3, .bool false]] w fun e w' =>
    e = .returned (.tuple #[.agg #[.int .i64 5, .bool false], .int .i8 0]) ∧ Below w.heap.size w w' := by
  have h := calc3ff 2 3 w
  rw [show wrap64 (2 + 3) = 5 by unfold wrap64; omega] at h
  exact h


end Go.Proofs.YtdlcejpfjlpclaaGreatDoor

namespace Go.Proofs.YtdlcejpfjlpclaaGreatDoor
open Go.RowKit

/-- The address. -/
def addrV (x n z : Int) (p : Bool) : Int := if p then 0 else if wrap64 (x + n) < 0 ∨ z ≤ wrap64 (x + n) then 0 else wrap64 (x + n)
/-- The fault. -/
def addrE (x n z : Int) (p : Bool) : Int := if p then 4 else if wrap64 (x + n) < 0 ∨ z ≤ wrap64 (x + n) then 5 else 0

theorem addr_any (x n z : Int) (p : Bool) (w : World) : Calls Tryz.prog 106 #[.agg #[.int .i64 x, .bool p], .int .i64 n, .int .i64 z] w fun e w' =>
    e = .returned (.tuple #[.int .i64 (addrV x n z p), .int .i8 (addrE x n z p)]) ∧ w' = w.alloc (.cells #[.int .i64 x, .bool p] 71) := by
  unfold addrV addrE
  cases p
  · by_cases h1 : wrap64 (x + n) < 0
    · go_enter Tryz.func106, Tryz.ntmps106
      go_wp2
      go_ret2
      exact ⟨by simp, rfl⟩
    · by_cases h2 : z ≤ wrap64 (x + n)
      · go_enter Tryz.func106, Tryz.ntmps106
        go_wp2
        go_ret2
        exact ⟨by simp, rfl⟩
      · go_enter Tryz.func106, Tryz.ntmps106
        go_wp2
        go_ret2
        exact ⟨by simp, rfl⟩
  · go_enter Tryz.func106, Tryz.ntmps106
    go_wp2
    go_ret2
    exact ⟨rfl, rfl⟩

theorem refaddr_any (x n z : Int) (p : Bool) (w : World) : Calls Tryz.prog 90 #[.agg #[.int .i64 x, .bool p], .int .i64 n, .int .i64 z] w fun e w' =>
    e = .returned (.tuple #[.int .i64 (addrV x n z p), .int .i8 (addrE x n z p)]) ∧ w' = w.alloc (.cells #[.int .i64 x, .bool p] 71) := by
  unfold addrV addrE
  cases p
  · by_cases h1 : wrap64 (x + n) < 0
    · go_enter Tryz.func90, Tryz.ntmps90
      go_wp2
      go_ret2
      exact ⟨by simp, rfl⟩
    · by_cases h2 : z ≤ wrap64 (x + n)
      · go_enter Tryz.func90, Tryz.ntmps90
        go_wp2
        go_ret2
        exact ⟨by simp, rfl⟩
      · go_enter Tryz.func90, Tryz.ntmps90
        go_wp2
        go_ret2
        exact ⟨by simp, rfl⟩
  · go_enter Tryz.func90, Tryz.ntmps90
    go_wp2
    go_ret2
    exact ⟨rfl, rfl⟩


end Go.Proofs.YtdlcejpfjlpclaaGreatDoor
