/-
  Sequences as marks.
-/
import Derived.Test.YtokhclindfipbaaGreatDoorProg
import Derived.WalkKit
import Derived.WalkSpells
import Derived.WalkLawsBesides
import Derived.RowKit3
import Derived.Below
import Derived.Deep.QuietTactic
import Derived.BigQuiet
import Derived.WalkSmall
import Derived.Laws.Rows
import Derived.Test.YtokhclindfipbaaGreatDoorPa54
import Derived.Test.YtokhclindfipbaaGreatDoorPa46
namespace Go.Proofs.YtokhclindfipbaaGreatDoor
open Go.RowKit

def mkR (n i : Nat) : List Value := [.int .i64 (1048576 * (n : Int) + (i : Int) + 1), .slice none 0 0]
theorem mkR_len (n i : Nat) : (mkR n i).length = 2 := rfl
theorem mkR_one (n i : Nat) : ∀ u ∈ mkR n i, u.oneCell' = true := by simp [mkR, Value.oneCell']
theorem infoOR : ∃ i, Tryz.prog.info? 29 = some i ∧ i.zero = some (.slice none 0 0) ∧ i.size = 1 ∧ i.bytes = 24 :=
  ⟨(Tryz.prog.info? 29).get (by kernel_rfl), by kernel_rfl, by kernel_rfl, by kernel_rfl, by kernel_rfl⟩
theorem Fr.trans {rs : List (Value × Nat)} {w0 w w' : World} (h : Fr rs w0 w) (hb : Below w.heap.size w w') : Fr rs w0 w' :=
  ⟨hb.os.trans h.os, hb.tape.trans h.tape, hb.output.trans h.output, Nat.le_trans h.size hb.size, fun b h1 h2 => (hb.block b (Nat.lt_of_lt_of_le h1 h.size)).trans (h.block b h1 h2)⟩

end Go.Proofs.YtokhclindfipbaaGreatDoor
