/-
  The law WordSeals returns true for every op, two words and every number by which sealed words are moved, and leaves what was there; its two numbers are of 64 bits.
-/
import Derived.Test.YtbdmhhejpomeiaaDoorSeals
namespace Go.Proofs.YtbdmhhejpomeiaaDoor
open Go.RowKit

theorem bcell {W w1 : World} (hb : Below W.heap.size W w1) : (∀ b o, b < W.heap.size → w1.cell? ⟨b, o, none⟩ = W.cell? ⟨b, o, none⟩) ∧ (∀ b o, b < W.heap.size → w1.frozen? ⟨b, o, none⟩ = W.frozen? ⟨b, o, none⟩) :=
  ⟨fun b o h => hb.cell (p := ⟨b, o, none⟩) h, fun b o h => hb.frozen (p := ⟨b, o, none⟩) h⟩

theorem lawSeals (op x y k : Int) (p q : Bool) (hx : -9223372036854775808 ≤ x ∧ x ≤ 9223372036854775807) (hy : -9223372036854775808 ≤ y ∧ y ≤ 9223372036854775807) (w : World) :
    Calls Tryd.prog 6 #[.int .i8 op, .agg #[.int .i64 x, .bool p, .int .i64 y, .bool q, .int .i64 k]] w fun e w' => e = .returned (.bool true) ∧ Below w.heap.size w w' := by
  have HM : Hid (calcV op (mv x k p) (mv y k q) p q = calcV op x y p q) := moved_same op x y k p q hx hy
  clear hx hy
  go_enter Tryd.func6, Tryd.ntmps6
  go_wp2_with fail
  refine (calc_any op x y p q _).mono ?_
  rintro e w1 ⟨rfl, hb1⟩
  have x0 : w1.cell? ⟨w.heap.size, 0, none⟩ = some (.int .i64 x) := cell_keep hb1 (by simp)
  have x1 : w1.cell? ⟨w.heap.size, 1, none⟩ = some (.bool p) := cell_keep hb1 (by simp)
  have x2 : w1.cell? ⟨w.heap.size, 2, none⟩ = some (.int .i64 y) := cell_keep hb1 (by simp)
  have x3 : w1.cell? ⟨w.heap.size, 3, none⟩ = some (.bool q) := cell_keep hb1 (by simp)
  have x4 : w1.cell? ⟨w.heap.size, 4, none⟩ = some (.int .i64 k) := cell_keep hb1 (by simp)
  have z1 : w.heap.size < w1.heap.size := World.block_lt_of_cell? w1 _ x0
  have z2 : w.heap.size < w1.heap.size + 1 := by omega
  have z3 : w.heap.size < w1.heap.size + 1 + 1 := by omega
  have z4 : w.heap.size < w1.heap.size + 1 + 1 + 1 := by omega
  have z5 : w.heap.size < w1.heap.size + 1 + 1 + 1 + 1 := by omega
  have z6 : w.heap.size < w1.heap.size + 1 + 1 + 1 + 1 + 1 := by omega
  have HB1 : Hid (Below w.heap.size w w1) := bel_trans (bel_alloc (Below.refl _ _) _) hb1
  clear hb1
  go_wp2_with fail
  go_region_held3 (fun W => W.cell? ⟨w.heap.size, 0, none⟩ = some (.int .i64 x) ∧ W.cell? ⟨w.heap.size, 1, none⟩ = some (.bool p) ∧ W.cell? ⟨w.heap.size, 2, none⟩ = some (.int .i64 y) ∧ W.cell? ⟨w.heap.size, 3, none⟩ = some (.bool q) ∧ W.cell? ⟨w.heap.size, 4, none⟩ = some (.int .i64 k)) 
    (first | (refine ⟨cell_keep hb2 ?_, cell_keep hb2 ?_, cell_keep hb2 ?_, cell_keep hb2 ?_, cell_keep hb2 ?_⟩ <;> (simp [go_sem, *]; done)) | (simp [go_sem, *]; done))
    (first
      | (go_at_call 18; refine (moved_any _ _ _ _).mono ?_; rintro e w' ⟨rfl, rfl⟩)
      | (go_at_call 7; refine (calc_any _ _ _ _ _ _).mono ?_; rintro e w2 ⟨rfl, hb2⟩; obtain ⟨hc2, hf2⟩ := bcell hb2; have y0 : w.heap.size < w2.heap.size := (by have := hb2.size; simp at this; omega); have y1 : w1.heap.size < w2.heap.size := (by have := hb2.size; simp at this; omega)))
  all_goals have hm := HM.out
  all_goals go_wp2_with (go_at_call 11; refine (works_any _).mono ?_; rintro e w3 ⟨rfl, hb3⟩)
  all_goals go_ret
  all_goals refine ⟨rfl, bel_trans ?_ hb3⟩
  all_goals (repeat (first | exact HB1.out | refine Below.setCell ?_ (by simp; omega) _ | refine bel_alloc ?_ _ | refine Below.drew ?_ | refine bel_trans ?_ hb2))
end Go.Proofs.YtbdmhhejpomeiaaDoor
