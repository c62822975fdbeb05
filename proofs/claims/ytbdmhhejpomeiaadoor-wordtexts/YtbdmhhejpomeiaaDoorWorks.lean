/-
  The statements' own small test, works, returns true and leaves what was there; no condition.
-/
import Derived.Test.YtbdmhhejpomeiaaDoorCalc0
import Derived.Test.YtbdmhhejpomeiaaDoorCalc4
import Derived.Outline
import Derived.StillTactics
import Derived.Laws.Pointers
import Derived.Deep.RegionHeld3
namespace Go.Proofs.YtbdmhhejpomeiaaDoor
open Go.RowKit

theorem bel_trans {w w1 w2 : World} (h : Below w.heap.size w w1) (k : Below w1.heap.size w1 w2) : Below w.heap.size w w2 := h.trans (k.mono h.size)

theorem cell_keep {w w1 : World} (h : Below w.heap.size w w1) {b o : Nat} {v : Value} (hc : w.cell? ⟨b, o, none⟩ = some v) : w1.cell? ⟨b, o, none⟩ = some v := by
  rw [h.cell (p := ⟨b, o, none⟩) (World.block_lt_of_cell? w _ hc)]; exact hc

theorem text7 (w : World) : Calls Tryd.prog 14 #[.agg #[.int .i64 7, .bool true]] w fun e w' =>
    e = .returned (.string ⟨#[64, 55]⟩) ∧ w' = w.alloc (.cells #[.int .i64 7, .bool true] 24) := by
  go_enter Tryd.func14, Tryd.ntmps14
  go_wp2
  go_ret
  exact ⟨rfl, rfl⟩

theorem add23 (w : World) : Calls Tryd.prog 7 #[.int .i8 3, .agg #[.int .i64 2, .bool false], .agg #[.int .i64 3, .bool false]] w fun e w' =>
    e = .returned (.tuple #[.agg #[.int .i64 5, .bool false], .int .i8 0]) ∧ Below w.heap.size w w' := by
  have h := calc3ff 2 3 w
  rw [show wrap64 (2 + 3) = 5 by unfold wrap64; omega] at h
  exact h

theorem works_any (w : World) : Calls Tryd.prog 11 #[] w fun e w' => e = .returned (.bool true) ∧ Below w.heap.size w w' := by
  go_enter Tryd.func11, Tryd.ntmps11
  go_wp2_with (first | (go_at_call 10; refine (sealed_any _ _).mono ?_; rintro e w' ⟨rfl, rfl⟩) | (go_at_call 9; refine (plain_any _ _).mono ?_; rintro e w' ⟨rfl, rfl⟩))
  refine (calc10tteq 3 _).mono ?_
  rintro e w1 ⟨rfl, hb1⟩
  have HB1 : Hid (Below w.heap.size w w1) := bel_trans (bel_alloc (bel_alloc (Below.refl _ _) _) _) hb1
  clear hb1
  go_wp2_with (first | (go_at_call 10; refine (sealed_any _ _).mono ?_; rintro e w' ⟨rfl, rfl⟩) | (go_at_call 9; refine (plain_any _ _).mono ?_; rintro e w' ⟨rfl, rfl⟩))
  refine (calc3t 3 1 false _).mono ?_
  rintro e w2 ⟨rfl, hb2⟩
  have b2 : Below (w1.alloc (.cells #[.int .i64 1, .bool false] 24)).heap.size (w1.alloc (.cells #[.int .i64 1, .bool false] 24)) w2 := bel_trans (bel_alloc (bel_alloc (Below.refl _ _) _) _) hb2
  have c20 : w2.cell? ⟨w1.heap.size, 0, none⟩ = some (.int .i64 1) := cell_keep b2 (by simp)
  have c21 : w2.cell? ⟨w1.heap.size, 1, none⟩ = some (.bool false) := cell_keep b2 (by simp)
  have HB2 : Hid (Below w.heap.size w w2) := bel_trans (bel_alloc HB1.out _) b2
  clear hb2 b2 HB1
  go_wp2_with (first | (go_at_call 10; refine (sealed_any _ _).mono ?_; rintro e w' ⟨rfl, rfl⟩) | (go_at_call 9; refine (plain_any _ _).mono ?_; rintro e w' ⟨rfl, rfl⟩))
  refine (add23 _).mono ?_
  rintro e w3 ⟨rfl, hb3⟩
  have b3 : Below w2.heap.size w2 w3 := bel_trans (bel_alloc (bel_alloc (bel_alloc (Below.refl _ _) _) _) _) hb3
  have c30 : w3.cell? ⟨w1.heap.size, 0, none⟩ = some (.int .i64 1) := cell_keep b3 c20
  have c31 : w3.cell? ⟨w1.heap.size, 1, none⟩ = some (.bool false) := cell_keep b3 c21
  have z3 : w1.heap.size < w3.heap.size := World.block_lt_of_cell? w3 _ c30
  have z4 : w1.heap.size < w3.heap.size + 1 := by omega
  have z5 : w1.heap.size < w3.heap.size + 1 + 1 := by omega
  have z6 : w1.heap.size < w3.heap.size + 1 + 1 + 1 := by omega
  have z7 : w1.heap.size < w3.heap.size + 1 + 1 + 1 + 1 := by omega
  have HB3 : Hid (Below w.heap.size w w3) := bel_trans HB2.out b3
  clear hb3 b3 c20 c21 HB2
  go_wp2_with fail
  go_region_held3 (fun W => W.cell? ⟨w1.heap.size, 0, none⟩ = some (.int .i64 1) ∧ W.cell? ⟨w1.heap.size, 1, none⟩ = some (.bool false) ∧ W.cell? ⟨w3.heap.size, 0, none⟩ = some (.int .i64 5) ∧ W.cell? ⟨w3.heap.size, 1, none⟩ = some (.bool false) ∧ w3.heap.size < W.heap.size) (simp [go_sem, World.cell?_alloc_past, *])
    (first
      | (go_at_call 9; refine (plain_any _ _).mono ?_; rintro e w' ⟨rfl, rfl⟩)
      | (go_at_call 10; refine (sealed_any _ _).mono ?_; rintro e w' ⟨rfl, rfl⟩)
      | (go_at_call 14; refine (text7 _).mono ?_; rintro e w' ⟨rfl, rfl⟩))
  go_wp2
  go_ret
  exact ⟨rfl, (bel_alloc (bel_alloc (bel_alloc (bel_alloc (bel_alloc HB3.out _) _) _) _) _).drew⟩
end Go.Proofs.YtbdmhhejpomeiaaDoor
