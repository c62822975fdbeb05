/-
  The variable that holds the ops' names: what it holds where it lies as listed, and that it stays so where only new memory is made; no other condition.
-/
import Derived.Test.YtbckolkgncajfaaGreatDoorProg
import Derived.Test.YtbckolkgncajfaaGreatDoorLo02
import Derived.Test.YtbckolkgncajfaaGreatDoorLo04
import Derived.Lib.LaidTab
import Derived.WalkSmall
namespace Go.Proofs.YtbckolkgncajfaaGreatDoor
open Go.RowKit

/-- The names lie in their variable. -/
def Nm (w : World) : Prop := w.var? Tryz.prog "pleat/isa.names" = some (ops.map fun k => Value.string (nameB k)).toArray

theorem gNm : Tryz.prog.globalNamed "pleat/isa.names" = some 0 := by kernel_rfl

theorem Nm.at {w : World} (h : Nm w) (j : Nat) (hj : j < 22) : w.cell? ⟨0, j, none⟩ = some (.string (nameB j)) := by
  have h1 := World.var?_cell gNm h j
  rw [h1]
  have h2 : ops[j]? = some (j : Int) := by
    have : ∀ i : Fin 22, ops[i.val]? = some (i.val : Int) := by decide
    exact this ⟨j, hj⟩
  simp [h2]

theorem Nm.cell {w : World} (h : Nm w) (op : Int) (h0 : 0 ≤ op) (h1 : op ≤ 21) : w.cell? ⟨0, op.toNat, none⟩ = some (.string (nameB op)) := by
  have := h.at op.toNat (by omega)
  rwa [Int.toNat_of_nonneg h0] at this

theorem Nm.below {w w1 : World} (h : Nm w) (hb : Below w.heap.size w w1) : Nm w1 :=
  var?_below hb gNm (World.block_lt_of_cell? w _ (h.at 0 (by omega))) h

theorem Nm.alloc {w : World} (h : Nm w) (o : Obj) : Nm (w.alloc o) := h.below (bel_alloc (Below.refl _ _) o)


end Go.Proofs.YtbckolkgncajfaaGreatDoor
