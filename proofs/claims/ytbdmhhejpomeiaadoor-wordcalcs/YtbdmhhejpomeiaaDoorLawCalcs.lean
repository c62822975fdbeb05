/-
  The law WordCalcs returns true for every op and two words, and leaves what was there; no condition.
-/
import Derived.Test.YtbdmhhejpomeiaaDoorWorks
import Derived.Test.YtbdmhhejpomeiaaDoorCalc
import Derived.Test.YtbdmhhejpomeiaaDoorRefCalc
namespace Go.Proofs.YtbdmhhejpomeiaaDoor
open Go.RowKit

theorem lawCalcs (op x y : Int) (p q : Bool) (w : World) : Calls Tryd.prog 3 #[.int .i8 op, .agg #[.int .i64 x, .bool p], .agg #[.int .i64 y, .bool q]] w fun e w' =>
    e = .returned (.bool true) ∧ Below w.heap.size w w' := by
  go_enter Tryd.func3, Tryd.ntmps3
  go_wp2_with fail
  refine (calc_any op x y p q _).mono ?_
  rintro e w1 ⟨rfl, hb1⟩
  have b1 : Below w.heap.size w w1 := bel_trans (bel_alloc (bel_alloc (Below.refl _ _) _) _) hb1
  have a10 : w1.cell? ⟨w.heap.size, 0, none⟩ = some (.int .i64 x) := cell_keep hb1 (by simp)
  have a11 : w1.cell? ⟨w.heap.size, 1, none⟩ = some (.bool p) := cell_keep hb1 (by simp)
  have d10 : w1.cell? ⟨w.heap.size + 1, 0, none⟩ = some (.int .i64 y) := cell_keep hb1 (by simp)
  have d11 : w1.cell? ⟨w.heap.size + 1, 1, none⟩ = some (.bool q) := cell_keep hb1 (by simp)
  have z1 : w.heap.size < w1.heap.size := World.block_lt_of_cell? w1 _ a10
  have z2 : w.heap.size + 1 < w1.heap.size := World.block_lt_of_cell? w1 _ d10
  have HB1 : Hid (Below w.heap.size w w1) := b1
  clear hb1 b1
  go_wp2_with fail
  refine (refcalc_any op x y p q _).mono ?_
  rintro e w2 ⟨rfl, hb2⟩
  have v20 : w2.cell? ⟨w1.heap.size, 0, none⟩ = some (.int .i64 (calcV op x y p q)) := cell_keep hb2 (by simp)
  have v21 : w2.cell? ⟨w1.heap.size, 1, none⟩ = some (.bool false) := cell_keep hb2 (by simp)
  have b2 : Below w1.heap.size w1 w2 := bel_trans (bel_alloc (Below.refl _ _) _) hb2
  have a20 := cell_keep b2 a10
  have d20 := cell_keep b2 d10
  have z3 : w1.heap.size < w2.heap.size := World.block_lt_of_cell? w2 _ v20
  have y0 : w.heap.size < w2.heap.size := by omega
  have y1 : w.heap.size + 1 < w2.heap.size := by omega
  have y2 : w.heap.size < w2.heap.size + 1 := by omega
  have y3 : w.heap.size + 1 < w2.heap.size + 1 := by omega
  have y4 : w1.heap.size < w2.heap.size + 1 := by omega
  have y5 : w.heap.size < w2.heap.size + 1 + 1 := by omega
  have y6 : w.heap.size + 1 < w2.heap.size + 1 + 1 := by omega
  have y7 : w1.heap.size < w2.heap.size + 1 + 1 := by omega
  have HB2 : Hid (Below w.heap.size w w2) := bel_trans HB1.out b2
  clear hb2 b2 a10 a11 d10 d11 z1 z2 HB1
  go_wp2_with fail
  go_region_held3 (fun W => W.cell? ⟨w1.heap.size, 0, none⟩ = some (.int .i64 (calcV op x y p q)) ∧ W.cell? ⟨w1.heap.size, 1, none⟩ = some (.bool false) ∧ W.cell? ⟨w2.heap.size, 0, none⟩ = some (.int .i64 (calcV op x y p q)) ∧ W.cell? ⟨w2.heap.size, 1, none⟩ = some (.bool false)
      ∧ W.cell? ⟨w.heap.size, 0, none⟩ = some (.int .i64 x) ∧ W.cell? ⟨w.heap.size + 1, 0, none⟩ = some (.int .i64 y) ∧ w2.heap.size < W.heap.size) (first | (refine ⟨cell_keep hb3 ?_, cell_keep hb3 ?_, cell_keep hb3 ?_, cell_keep hb3 ?_, cell_keep hb3 ?_, cell_keep hb3 ?_, Nat.lt_of_lt_of_le ?_ hb3.size⟩ <;> (simp [go_sem, *]; done)) | (simp [go_sem, *]; done))
    (first
      | (go_at_call 9; refine (plain_any _ _).mono ?_; rintro e w' ⟨rfl, rfl⟩)
      | (go_at_call 10; refine (sealed_any _ _).mono ?_; rintro e w' ⟨rfl, rfl⟩)
      | (go_at_call 11; refine (works_any _).mono ?_; rintro e w3 ⟨rfl, hb3⟩))
  go_wp2
  go_ret
  exact ⟨rfl, bel_trans (bel_alloc (bel_alloc (bel_alloc HB2.out _) _) _).drew hb3⟩
end Go.Proofs.YtbdmhhejpomeiaaDoor
