/-
  The two objects as two makes them, and what linking them is to tell. lives: both objects link, one alone does not. At of the program. A list of objects that grows by one a time; no call in sight.
-/
import Derived.Test.YthpkekpojhmaaaaGreatDoorProg
import Derived.WalkKit
import Derived.WalkSpells
import Derived.WalkLawsBesides
import Derived.RowKit3
import Derived.Below
import Derived.Deep.QuietTactic
import Derived.BigQuiet
import Derived.WalkSmall
import Derived.Laws.Rows
import Derived.Test.YthpkekpojhmaaaaGreatDoorP34
import Derived.Test.YthpkekpojhmaaaaGreatDoorP09
import Derived.Test.YthpkekpojhmaaaaGreatDoorP02
import Derived.Test.YthpkekpojhmaaaaGreatDoorP27
import Derived.Test.YthpkekpojhmaaaaGreatDoorP19
namespace Go.Proofs.YthpkekpojhmaaaaGreatDoor
open Go.RowKit

theorem twoA_in {w : World} {g : Nat} (h0 : w.heap[g]? = some (.cells #[.int .u32 2281701376, .int .u32 2818572288] 78 (0, 0))) (h1 : w.heap[g + 1]? = some (.cells #[.int .i64 7, .int .i64 8] 2 (0, 0))) (h2 : w.heap[g + 1 + 1]? = some (.cells #[.string ⟨#[102]⟩, .int .i8 3, .int .i64 0, .string ⟨#[109, 97, 105, 110]⟩, .int .i8 1, .int .i64 0] 131 (0, 0))) (h3 : w.heap[g + 1 + 1 + 1]? = some (.cells #[.int .i64 0, .int .i64 0] 83 (0, 0))) : ObIn w (twoQ g 0) twoA :=
  ⟨two_lt ⟨_, rfl, Lib.cell_of_heap h0 0⟩ ⟨_, rfl, Lib.cell_of_heap h0 1⟩, two_lt ⟨_, rfl, Lib.cell_of_heap h1 0⟩ ⟨_, rfl, Lib.cell_of_heap h1 1⟩,
   two_lt ⟨_, rfl, Lib.cell_of_heap h2 0, Lib.cell_of_heap h2 1, Lib.cell_of_heap h2 2⟩ ⟨_, rfl, Lib.cell_of_heap h2 3, Lib.cell_of_heap h2 4, Lib.cell_of_heap h2 5⟩,
   one_lt ⟨_, rfl, Lib.cell_of_heap h3 0, Lib.cell_of_heap h3 1⟩, two_lt (by decide) (by decide), two_lt ⟨by decide, by decide⟩ ⟨by decide, by decide⟩, ⟨by decide, by decide⟩, by decide, by decide, by decide, by decide, sName_few _ (by decide), Nat.le_refl 1⟩
theorem twoB_in {w : World} {g : Nat} (h5 : w.heap[g + 1 + 1 + 1 + 1 + 1]? = some (.cells #[.int .u32 142606341, .int .u32 2558001152] 78 (0, 0))) (h6 : w.heap[g + 1 + 1 + 1 + 1 + 1 + 1]? = some (.cells #[.string ⟨#[102]⟩, .int .i8 1, .int .i64 0] 131 (0, 0))) : ObIn w (twoQ g 1) twoB :=
  ⟨two_lt ⟨_, rfl, Lib.cell_of_heap h5 0⟩ ⟨_, rfl, Lib.cell_of_heap h5 1⟩, fun i hi => by simp [twoB] at hi,
   one_lt ⟨_, rfl, Lib.cell_of_heap h6 0, Lib.cell_of_heap h6 1, Lib.cell_of_heap h6 2⟩,
   fun i hi => by simp [twoB] at hi, two_lt (by decide) (by decide), fun i hi => by simp [twoB] at hi, ⟨by decide, by decide⟩, by decide, by decide, by decide, by decide, sName_few _ (by decide), Nat.zero_le _⟩
set_option maxRecDepth 100000 in
theorem two_in (w : World) : ObsIn (((((((((w.alloc (.cells #[.int .u32 2281701376, .int .u32 2818572288] 78)).alloc (.cells #[.int .i64 7, .int .i64 8] 2)).alloc (.cells #[.string ⟨#[102]⟩, .int .i8 3, .int .i64 0, .string ⟨#[109, 97, 105, 110]⟩, .int .i8 1, .int .i64 0] 131)).alloc (.cells #[.int .i64 0, .int .i64 0] 83)).alloc (.cells #[.string ⟨#[97]⟩, .slice (some ⟨w.heap.size, 0, none⟩) 2 2, .int .i64 1, .slice (some ⟨w.heap.size + 1, 0, none⟩) 2 2, .slice (some ⟨w.heap.size + 1 + 1, 0, none⟩) 2 2, .slice (some ⟨w.heap.size + 1 + 1 + 1, 0, none⟩) 1 1] 75)).alloc (.cells #[.int .u32 142606341, .int .u32 2558001152] 78)).alloc (.cells #[.string ⟨#[102]⟩, .int .i8 1, .int .i64 0] 131)).alloc (.cells #[.string ⟨#[98]⟩, .slice (some ⟨w.heap.size + 1 + 1 + 1 + 1 + 1, 0, none⟩) 2 2, .int .i64 0, .slice none 0 0, .slice (some ⟨w.heap.size + 1 + 1 + 1 + 1 + 1 + 1, 0, none⟩) 1 1, .slice none 0 0] 75)).alloc (.cells #[.string ⟨#[97]⟩, .slice (some ⟨w.heap.size, 0, none⟩) 2 2, .int .i64 1, .slice (some ⟨w.heap.size + 1, 0, none⟩) 2 2, .slice (some ⟨w.heap.size + 1 + 1, 0, none⟩) 2 2, .slice (some ⟨w.heap.size + 1 + 1 + 1, 0, none⟩) 1 1, .string ⟨#[98]⟩, .slice (some ⟨w.heap.size + 1 + 1 + 1 + 1 + 1, 0, none⟩) 2 2, .int .i64 0, .slice none 0 0, .slice (some ⟨w.heap.size + 1 + 1 + 1 + 1 + 1 + 1, 0, none⟩) 1 1, .slice none 0 0] 75)) (some ⟨w.heap.size + 1 + 1 + 1 + 1 + 1 + 1 + 1 + 1, 0, none⟩) (twoQ w.heap.size) twoL := by
  show ObsIn (als w [.cells #[.int .u32 2281701376, .int .u32 2818572288] 78, .cells #[.int .i64 7, .int .i64 8] 2, .cells #[.string ⟨#[102]⟩, .int .i8 3, .int .i64 0, .string ⟨#[109, 97, 105, 110]⟩, .int .i8 1, .int .i64 0] 131, .cells #[.int .i64 0, .int .i64 0] 83, .cells #[.string ⟨#[97]⟩, .slice (some ⟨w.heap.size, 0, none⟩) 2 2, .int .i64 1, .slice (some ⟨w.heap.size + 1, 0, none⟩) 2 2, .slice (some ⟨w.heap.size + 1 + 1, 0, none⟩) 2 2, .slice (some ⟨w.heap.size + 1 + 1 + 1, 0, none⟩) 1 1] 75, .cells #[.int .u32 142606341, .int .u32 2558001152] 78, .cells #[.string ⟨#[102]⟩, .int .i8 1, .int .i64 0] 131, .cells #[.string ⟨#[98]⟩, .slice (some ⟨w.heap.size + 1 + 1 + 1 + 1 + 1, 0, none⟩) 2 2, .int .i64 0, .slice none 0 0, .slice (some ⟨w.heap.size + 1 + 1 + 1 + 1 + 1 + 1, 0, none⟩) 1 1, .slice none 0 0] 75, .cells #[.string ⟨#[97]⟩, .slice (some ⟨w.heap.size, 0, none⟩) 2 2, .int .i64 1, .slice (some ⟨w.heap.size + 1, 0, none⟩) 2 2, .slice (some ⟨w.heap.size + 1 + 1, 0, none⟩) 2 2, .slice (some ⟨w.heap.size + 1 + 1 + 1, 0, none⟩) 1 1, .string ⟨#[98]⟩, .slice (some ⟨w.heap.size + 1 + 1 + 1 + 1 + 1, 0, none⟩) 2 2, .int .i64 0, .slice none 0 0, .slice (some ⟨w.heap.size + 1 + 1 + 1 + 1 + 1 + 1, 0, none⟩) 1 1, .slice none 0 0] 75]) _ _ _
  have k0 : (als w [.cells #[.int .u32 2281701376, .int .u32 2818572288] 78, .cells #[.int .i64 7, .int .i64 8] 2, .cells #[.string ⟨#[102]⟩, .int .i8 3, .int .i64 0, .string ⟨#[109, 97, 105, 110]⟩, .int .i8 1, .int .i64 0] 131, .cells #[.int .i64 0, .int .i64 0] 83, .cells #[.string ⟨#[97]⟩, .slice (some ⟨w.heap.size, 0, none⟩) 2 2, .int .i64 1, .slice (some ⟨w.heap.size + 1, 0, none⟩) 2 2, .slice (some ⟨w.heap.size + 1 + 1, 0, none⟩) 2 2, .slice (some ⟨w.heap.size + 1 + 1 + 1, 0, none⟩) 1 1] 75, .cells #[.int .u32 142606341, .int .u32 2558001152] 78, .cells #[.string ⟨#[102]⟩, .int .i8 1, .int .i64 0] 131, .cells #[.string ⟨#[98]⟩, .slice (some ⟨w.heap.size + 1 + 1 + 1 + 1 + 1, 0, none⟩) 2 2, .int .i64 0, .slice none 0 0, .slice (some ⟨w.heap.size + 1 + 1 + 1 + 1 + 1 + 1, 0, none⟩) 1 1, .slice none 0 0] 75, .cells #[.string ⟨#[97]⟩, .slice (some ⟨w.heap.size, 0, none⟩) 2 2, .int .i64 1, .slice (some ⟨w.heap.size + 1, 0, none⟩) 2 2, .slice (some ⟨w.heap.size + 1 + 1, 0, none⟩) 2 2, .slice (some ⟨w.heap.size + 1 + 1 + 1, 0, none⟩) 1 1, .string ⟨#[98]⟩, .slice (some ⟨w.heap.size + 1 + 1 + 1 + 1 + 1, 0, none⟩) 2 2, .int .i64 0, .slice none 0 0, .slice (some ⟨w.heap.size + 1 + 1 + 1 + 1 + 1 + 1, 0, none⟩) 1 1, .slice none 0 0] 75]).heap[w.heap.size]? = some (.cells #[.int .u32 2281701376, .int .u32 2818572288] 78 (0, 0)) := als_at w _ 0 _ rfl
  have k1 : (als w [.cells #[.int .u32 2281701376, .int .u32 2818572288] 78, .cells #[.int .i64 7, .int .i64 8] 2, .cells #[.string ⟨#[102]⟩, .int .i8 3, .int .i64 0, .string ⟨#[109, 97, 105, 110]⟩, .int .i8 1, .int .i64 0] 131, .cells #[.int .i64 0, .int .i64 0] 83, .cells #[.string ⟨#[97]⟩, .slice (some ⟨w.heap.size, 0, none⟩) 2 2, .int .i64 1, .slice (some ⟨w.heap.size + 1, 0, none⟩) 2 2, .slice (some ⟨w.heap.size + 1 + 1, 0, none⟩) 2 2, .slice (some ⟨w.heap.size + 1 + 1 + 1, 0, none⟩) 1 1] 75, .cells #[.int .u32 142606341, .int .u32 2558001152] 78, .cells #[.string ⟨#[102]⟩, .int .i8 1, .int .i64 0] 131, .cells #[.string ⟨#[98]⟩, .slice (some ⟨w.heap.size + 1 + 1 + 1 + 1 + 1, 0, none⟩) 2 2, .int .i64 0, .slice none 0 0, .slice (some ⟨w.heap.size + 1 + 1 + 1 + 1 + 1 + 1, 0, none⟩) 1 1, .slice none 0 0] 75, .cells #[.string ⟨#[97]⟩, .slice (some ⟨w.heap.size, 0, none⟩) 2 2, .int .i64 1, .slice (some ⟨w.heap.size + 1, 0, none⟩) 2 2, .slice (some ⟨w.heap.size + 1 + 1, 0, none⟩) 2 2, .slice (some ⟨w.heap.size + 1 + 1 + 1, 0, none⟩) 1 1, .string ⟨#[98]⟩, .slice (some ⟨w.heap.size + 1 + 1 + 1 + 1 + 1, 0, none⟩) 2 2, .int .i64 0, .slice none 0 0, .slice (some ⟨w.heap.size + 1 + 1 + 1 + 1 + 1 + 1, 0, none⟩) 1 1, .slice none 0 0] 75]).heap[w.heap.size + 1]? = some (.cells #[.int .i64 7, .int .i64 8] 2 (0, 0)) := als_at w _ 1 _ rfl
  have k2 : (als w [.cells #[.int .u32 2281701376, .int .u32 2818572288] 78, .cells #[.int .i64 7, .int .i64 8] 2, .cells #[.string ⟨#[102]⟩, .int .i8 3, .int .i64 0, .string ⟨#[109, 97, 105, 110]⟩, .int .i8 1, .int .i64 0] 131, .cells #[.int .i64 0, .int .i64 0] 83, .cells #[.string ⟨#[97]⟩, .slice (some ⟨w.heap.size, 0, none⟩) 2 2, .int .i64 1, .slice (some ⟨w.heap.size + 1, 0, none⟩) 2 2, .slice (some ⟨w.heap.size + 1 + 1, 0, none⟩) 2 2, .slice (some ⟨w.heap.size + 1 + 1 + 1, 0, none⟩) 1 1] 75, .cells #[.int .u32 142606341, .int .u32 2558001152] 78, .cells #[.string ⟨#[102]⟩, .int .i8 1, .int .i64 0] 131, .cells #[.string ⟨#[98]⟩, .slice (some ⟨w.heap.size + 1 + 1 + 1 + 1 + 1, 0, none⟩) 2 2, .int .i64 0, .slice none 0 0, .slice (some ⟨w.heap.size + 1 + 1 + 1 + 1 + 1 + 1, 0, none⟩) 1 1, .slice none 0 0] 75, .cells #[.string ⟨#[97]⟩, .slice (some ⟨w.heap.size, 0, none⟩) 2 2, .int .i64 1, .slice (some ⟨w.heap.size + 1, 0, none⟩) 2 2, .slice (some ⟨w.heap.size + 1 + 1, 0, none⟩) 2 2, .slice (some ⟨w.heap.size + 1 + 1 + 1, 0, none⟩) 1 1, .string ⟨#[98]⟩, .slice (some ⟨w.heap.size + 1 + 1 + 1 + 1 + 1, 0, none⟩) 2 2, .int .i64 0, .slice none 0 0, .slice (some ⟨w.heap.size + 1 + 1 + 1 + 1 + 1 + 1, 0, none⟩) 1 1, .slice none 0 0] 75]).heap[w.heap.size + 1 + 1]? = some (.cells #[.string ⟨#[102]⟩, .int .i8 3, .int .i64 0, .string ⟨#[109, 97, 105, 110]⟩, .int .i8 1, .int .i64 0] 131 (0, 0)) := als_at w _ 2 _ rfl
  have k3 : (als w [.cells #[.int .u32 2281701376, .int .u32 2818572288] 78, .cells #[.int .i64 7, .int .i64 8] 2, .cells #[.string ⟨#[102]⟩, .int .i8 3, .int .i64 0, .string ⟨#[109, 97, 105, 110]⟩, .int .i8 1, .int .i64 0] 131, .cells #[.int .i64 0, .int .i64 0] 83, .cells #[.string ⟨#[97]⟩, .slice (some ⟨w.heap.size, 0, none⟩) 2 2, .int .i64 1, .slice (some ⟨w.heap.size + 1, 0, none⟩) 2 2, .slice (some ⟨w.heap.size + 1 + 1, 0, none⟩) 2 2, .slice (some ⟨w.heap.size + 1 + 1 + 1, 0, none⟩) 1 1] 75, .cells #[.int .u32 142606341, .int .u32 2558001152] 78, .cells #[.string ⟨#[102]⟩, .int .i8 1, .int .i64 0] 131, .cells #[.string ⟨#[98]⟩, .slice (some ⟨w.heap.size + 1 + 1 + 1 + 1 + 1, 0, none⟩) 2 2, .int .i64 0, .slice none 0 0, .slice (some ⟨w.heap.size + 1 + 1 + 1 + 1 + 1 + 1, 0, none⟩) 1 1, .slice none 0 0] 75, .cells #[.string ⟨#[97]⟩, .slice (some ⟨w.heap.size, 0, none⟩) 2 2, .int .i64 1, .slice (some ⟨w.heap.size + 1, 0, none⟩) 2 2, .slice (some ⟨w.heap.size + 1 + 1, 0, none⟩) 2 2, .slice (some ⟨w.heap.size + 1 + 1 + 1, 0, none⟩) 1 1, .string ⟨#[98]⟩, .slice (some ⟨w.heap.size + 1 + 1 + 1 + 1 + 1, 0, none⟩) 2 2, .int .i64 0, .slice none 0 0, .slice (some ⟨w.heap.size + 1 + 1 + 1 + 1 + 1 + 1, 0, none⟩) 1 1, .slice none 0 0] 75]).heap[w.heap.size + 1 + 1 + 1]? = some (.cells #[.int .i64 0, .int .i64 0] 83 (0, 0)) := als_at w _ 3 _ rfl
  have k5 : (als w [.cells #[.int .u32 2281701376, .int .u32 2818572288] 78, .cells #[.int .i64 7, .int .i64 8] 2, .cells #[.string ⟨#[102]⟩, .int .i8 3, .int .i64 0, .string ⟨#[109, 97, 105, 110]⟩, .int .i8 1, .int .i64 0] 131, .cells #[.int .i64 0, .int .i64 0] 83, .cells #[.string ⟨#[97]⟩, .slice (some ⟨w.heap.size, 0, none⟩) 2 2, .int .i64 1, .slice (some ⟨w.heap.size + 1, 0, none⟩) 2 2, .slice (some ⟨w.heap.size + 1 + 1, 0, none⟩) 2 2, .slice (some ⟨w.heap.size + 1 + 1 + 1, 0, none⟩) 1 1] 75, .cells #[.int .u32 142606341, .int .u32 2558001152] 78, .cells #[.string ⟨#[102]⟩, .int .i8 1, .int .i64 0] 131, .cells #[.string ⟨#[98]⟩, .slice (some ⟨w.heap.size + 1 + 1 + 1 + 1 + 1, 0, none⟩) 2 2, .int .i64 0, .slice none 0 0, .slice (some ⟨w.heap.size + 1 + 1 + 1 + 1 + 1 + 1, 0, none⟩) 1 1, .slice none 0 0] 75, .cells #[.string ⟨#[97]⟩, .slice (some ⟨w.heap.size, 0, none⟩) 2 2, .int .i64 1, .slice (some ⟨w.heap.size + 1, 0, none⟩) 2 2, .slice (some ⟨w.heap.size + 1 + 1, 0, none⟩) 2 2, .slice (some ⟨w.heap.size + 1 + 1 + 1, 0, none⟩) 1 1, .string ⟨#[98]⟩, .slice (some ⟨w.heap.size + 1 + 1 + 1 + 1 + 1, 0, none⟩) 2 2, .int .i64 0, .slice none 0 0, .slice (some ⟨w.heap.size + 1 + 1 + 1 + 1 + 1 + 1, 0, none⟩) 1 1, .slice none 0 0] 75]).heap[w.heap.size + 1 + 1 + 1 + 1 + 1]? = some (.cells #[.int .u32 142606341, .int .u32 2558001152] 78 (0, 0)) := als_at w _ 5 _ rfl
  have k6 : (als w [.cells #[.int .u32 2281701376, .int .u32 2818572288] 78, .cells #[.int .i64 7, .int .i64 8] 2, .cells #[.string ⟨#[102]⟩, .int .i8 3, .int .i64 0, .string ⟨#[109, 97, 105, 110]⟩, .int .i8 1, .int .i64 0] 131, .cells #[.int .i64 0, .int .i64 0] 83, .cells #[.string ⟨#[97]⟩, .slice (some ⟨w.heap.size, 0, none⟩) 2 2, .int .i64 1, .slice (some ⟨w.heap.size + 1, 0, none⟩) 2 2, .slice (some ⟨w.heap.size + 1 + 1, 0, none⟩) 2 2, .slice (some ⟨w.heap.size + 1 + 1 + 1, 0, none⟩) 1 1] 75, .cells #[.int .u32 142606341, .int .u32 2558001152] 78, .cells #[.string ⟨#[102]⟩, .int .i8 1, .int .i64 0] 131, .cells #[.string ⟨#[98]⟩, .slice (some ⟨w.heap.size + 1 + 1 + 1 + 1 + 1, 0, none⟩) 2 2, .int .i64 0, .slice none 0 0, .slice (some ⟨w.heap.size + 1 + 1 + 1 + 1 + 1 + 1, 0, none⟩) 1 1, .slice none 0 0] 75, .cells #[.string ⟨#[97]⟩, .slice (some ⟨w.heap.size, 0, none⟩) 2 2, .int .i64 1, .slice (some ⟨w.heap.size + 1, 0, none⟩) 2 2, .slice (some ⟨w.heap.size + 1 + 1, 0, none⟩) 2 2, .slice (some ⟨w.heap.size + 1 + 1 + 1, 0, none⟩) 1 1, .string ⟨#[98]⟩, .slice (some ⟨w.heap.size + 1 + 1 + 1 + 1 + 1, 0, none⟩) 2 2, .int .i64 0, .slice none 0 0, .slice (some ⟨w.heap.size + 1 + 1 + 1 + 1 + 1 + 1, 0, none⟩) 1 1, .slice none 0 0] 75]).heap[w.heap.size + 1 + 1 + 1 + 1 + 1 + 1]? = some (.cells #[.string ⟨#[102]⟩, .int .i8 1, .int .i64 0] 131 (0, 0)) := als_at w _ 6 _ rfl
  have k8 : (als w [.cells #[.int .u32 2281701376, .int .u32 2818572288] 78, .cells #[.int .i64 7, .int .i64 8] 2, .cells #[.string ⟨#[102]⟩, .int .i8 3, .int .i64 0, .string ⟨#[109, 97, 105, 110]⟩, .int .i8 1, .int .i64 0] 131, .cells #[.int .i64 0, .int .i64 0] 83, .cells #[.string ⟨#[97]⟩, .slice (some ⟨w.heap.size, 0, none⟩) 2 2, .int .i64 1, .slice (some ⟨w.heap.size + 1, 0, none⟩) 2 2, .slice (some ⟨w.heap.size + 1 + 1, 0, none⟩) 2 2, .slice (some ⟨w.heap.size + 1 + 1 + 1, 0, none⟩) 1 1] 75, .cells #[.int .u32 142606341, .int .u32 2558001152] 78, .cells #[.string ⟨#[102]⟩, .int .i8 1, .int .i64 0] 131, .cells #[.string ⟨#[98]⟩, .slice (some ⟨w.heap.size + 1 + 1 + 1 + 1 + 1, 0, none⟩) 2 2, .int .i64 0, .slice none 0 0, .slice (some ⟨w.heap.size + 1 + 1 + 1 + 1 + 1 + 1, 0, none⟩) 1 1, .slice none 0 0] 75, .cells #[.string ⟨#[97]⟩, .slice (some ⟨w.heap.size, 0, none⟩) 2 2, .int .i64 1, .slice (some ⟨w.heap.size + 1, 0, none⟩) 2 2, .slice (some ⟨w.heap.size + 1 + 1, 0, none⟩) 2 2, .slice (some ⟨w.heap.size + 1 + 1 + 1, 0, none⟩) 1 1, .string ⟨#[98]⟩, .slice (some ⟨w.heap.size + 1 + 1 + 1 + 1 + 1, 0, none⟩) 2 2, .int .i64 0, .slice none 0 0, .slice (some ⟨w.heap.size + 1 + 1 + 1 + 1 + 1 + 1, 0, none⟩) 1 1, .slice none 0 0] 75]).heap[w.heap.size + 1 + 1 + 1 + 1 + 1 + 1 + 1 + 1]? = some (.cells #[.string ⟨#[97]⟩, .slice (some ⟨w.heap.size, 0, none⟩) 2 2, .int .i64 1, .slice (some ⟨w.heap.size + 1, 0, none⟩) 2 2, .slice (some ⟨w.heap.size + 1 + 1, 0, none⟩) 2 2, .slice (some ⟨w.heap.size + 1 + 1 + 1, 0, none⟩) 1 1, .string ⟨#[98]⟩, .slice (some ⟨w.heap.size + 1 + 1 + 1 + 1 + 1, 0, none⟩) 2 2, .int .i64 0, .slice none 0 0, .slice (some ⟨w.heap.size + 1 + 1 + 1 + 1 + 1 + 1, 0, none⟩) 1 1, .slice none 0 0] 75 (0, 0)) := als_at w _ 8 _ rfl
  have c8 := fun j => Lib.cell_of_heap k8 j
  generalize als w _ = X at k0 k1 k2 k3 k5 k6 c8 ⊢
  clear k8
  refine ⟨two_lt ⟨_, rfl, c8 0, c8 1, c8 2, c8 3, c8 4, c8 5⟩ ⟨_, rfl, c8 6, c8 7, c8 8, c8 9, c8 10, c8 11⟩, two_lt (twoA_in k0 k1 k2 k3) (twoB_in k5 k6), by decide⟩
/-- The first alone. -/
theorem one_in {w : World} {A : Option Addr} {q : Nat → Pl} (h : ObsIn w A q twoL) : ObsIn w A q oneL :=
  ⟨one_lt (h.cells 0 (by decide)), one_lt (h.each 0 (by decide)), by decide⟩
set_option maxHeartbeats 1000000 in
set_option maxRecDepth 100000 in
theorem two_any (w : World) : Calls Tryz.prog 32 #[] w fun e w' => ∃ (a : Addr) (q : Nat → Pl), e = .returned (.slice (some a) 2 2) ∧ ObsIn w' (some a) q twoL ∧ Below w.heap.size w w' := by
  have HI : Hid _ := two_in w
  have HB : Hid (Below w.heap.size w (((((((((w.alloc (.cells #[.int .u32 2281701376, .int .u32 2818572288] 78)).alloc (.cells #[.int .i64 7, .int .i64 8] 2)).alloc (.cells #[.string ⟨#[102]⟩, .int .i8 3, .int .i64 0, .string ⟨#[109, 97, 105, 110]⟩, .int .i8 1, .int .i64 0] 131)).alloc (.cells #[.int .i64 0, .int .i64 0] 83)).alloc (.cells #[.string ⟨#[97]⟩, .slice (some ⟨w.heap.size, 0, none⟩) 2 2, .int .i64 1, .slice (some ⟨w.heap.size + 1, 0, none⟩) 2 2, .slice (some ⟨w.heap.size + 1 + 1, 0, none⟩) 2 2, .slice (some ⟨w.heap.size + 1 + 1 + 1, 0, none⟩) 1 1] 75)).alloc (.cells #[.int .u32 142606341, .int .u32 2558001152] 78)).alloc (.cells #[.string ⟨#[102]⟩, .int .i8 1, .int .i64 0] 131)).alloc (.cells #[.string ⟨#[98]⟩, .slice (some ⟨w.heap.size + 1 + 1 + 1 + 1 + 1, 0, none⟩) 2 2, .int .i64 0, .slice none 0 0, .slice (some ⟨w.heap.size + 1 + 1 + 1 + 1 + 1 + 1, 0, none⟩) 1 1, .slice none 0 0] 75)).alloc (.cells #[.string ⟨#[97]⟩, .slice (some ⟨w.heap.size, 0, none⟩) 2 2, .int .i64 1, .slice (some ⟨w.heap.size + 1, 0, none⟩) 2 2, .slice (some ⟨w.heap.size + 1 + 1, 0, none⟩) 2 2, .slice (some ⟨w.heap.size + 1 + 1 + 1, 0, none⟩) 1 1, .string ⟨#[98]⟩, .slice (some ⟨w.heap.size + 1 + 1 + 1 + 1 + 1, 0, none⟩) 2 2, .int .i64 0, .slice none 0 0, .slice (some ⟨w.heap.size + 1 + 1 + 1 + 1 + 1 + 1, 0, none⟩) 1 1, .slice none 0 0] 75))) := lb_alloc (lb_alloc (lb_alloc (lb_alloc (lb_alloc (lb_alloc (lb_alloc (lb_alloc (lb_alloc (Below.refl _ _) _) _) _) _) _) _) _) _) _
  go_enter Tryz.func32, Tryz.ntmps32
  go_wp2
  go_ret
  exact ⟨_, _, rfl, HI.out, HB.out⟩
theorem two_lnk : lnkE twoL nmM 4 = none := by decide +kernel
theorem two_text : lnkT twoL nmM 4 = [2281701379, 2818572288, 0, 142606341, 2558001152, 0] := by decide +kernel
theorem two_ent : lnkN twoL nmM 4 = 0 := by decide +kernel
theorem two_mem : lnkM twoL nmM 4 = [0, 7, 8, 0] := by decide +kernel
theorem one_lnk : lnkE oneL nmM 4 = some (40, 0, 0) := by decide +kernel
theorem two_bas : basE twoL = 0 := by decide +kernel
theorem two_basL : basL twoL = [0, 3] := by decide +kernel


end Go.Proofs.YthpkekpojhmaaaaGreatDoor

namespace Go.Proofs.YthpkekpojhmaaaaGreatDoor
open Go.RowKit

theorem link_two {A : Option Addr} {ca : Nat} {q : Nat → Pl} {w : World} (L : ProgL) (h : ObsIn w A q twoL) : Calls Tryz.prog 8 #[.slice A 2 ca, .string nmM, .int .i64 4] w fun e w' => ∃ (A1 A2 : Option Addr) (c1 c2 : Nat), e = .returned (.tuple #[.agg #[.slice A1 6 c1, .int .i64 0, .slice A2 4 c2], .int .i64 0, .int .i64 0, .int .i64 0]) ∧ IntsAt w' A1 .u32 [2281701379, 2818572288, 0, 142606341, 2558001152, 0] ∧ IntsAt w' A2 .i64 [0, 7, 8, 0] ∧ Below w.heap.size w w' := by
  refine (L A ca q twoL nmM 4 w h (by decide)).mono ?_
  rintro e w' ⟨A1, A2, c1, c2, rfl, h1, h2, hb⟩
  rw [two_text] at h1 ⊢
  rw [two_mem] at h2 ⊢
  rw [two_lnk, two_ent]
  exact ⟨A1, A2, c1, c2, rfl, zrow_ints (l := [2281701379, 2818572288, 0, 142606341, 2558001152, 0]) h1, zrow_ints (l := [0, 7, 8, 0]) h2, hb⟩
theorem link_one {A : Option Addr} {ca : Nat} {q : Nat → Pl} {w : World} (L : ProgL) (h : ObsIn w A q twoL) : Calls Tryz.prog 8 #[.slice A 1 ca, .string nmM, .int .i64 4] w fun e w' => ∃ (A1 A2 : Option Addr) (n1 n2 c1 c2 : Nat) (N : Int), e = .returned (.tuple #[.agg #[.slice A1 n1 c1, .int .i64 N, .slice A2 n2 c2], .int .i64 40, .int .i64 0, .int .i64 0]) ∧ Below w.heap.size w w' := by
  refine (L A ca q oneL nmM 4 w (one_in h) (by decide)).mono ?_
  rintro e w' ⟨A1, A2, c1, c2, rfl, h1, h2, hb⟩
  rw [one_lnk]
  exact ⟨A1, A2, _, _, c1, c2, _, rfl, hb⟩
theorem bases_two {A : Option Addr} {ca : Nat} {q : Nat → Pl} {w : World} (B : ProgB) (h : ObsIn w A q twoL) : Calls Tryz.prog 10 #[.slice A 2 ca] w fun e w' => ∃ (P : Option Addr) (c : Nat), e = .returned (.tuple #[.slice P 2 c, .int .i64 0]) ∧ IntsAt w' P .i64 [0, 3] ∧ Below w.heap.size w w' := by
  refine (B A ca q twoL w h).mono ?_
  rintro e w' ⟨P, c, rfl, h1, hb⟩
  rw [two_basL] at h1 ⊢
  rw [two_bas]
  exact ⟨P, c, rfl, zrow_ints (l := [0, 3]) h1, hb⟩
theorem eqi_same {A B : Option Addr} {ca cb n : Nat} {zs : List Int} {w : World} (hn : zs.length = n) (hA : IntsAt w A .i64 zs) (hB : IntsAt w B .i64 zs) (hz : zs.length ≤ 1048576) : Calls Tryz.prog 12 #[.slice A n ca, .slice B n cb] w fun e w' => e = .returned (.bool true) ∧ Below w.heap.size w w' := by
  have h := eqints_any A B ca cb zs zs w hA hB hz
  rw [decide_eq_true rfl, hn] at h
  exact h
theorem eql_same {A B : Option Addr} {ca cb n : Nat} {zs : List Int} {w : World} (hn : zs.length = n) (hA : IntsAt w A .i64 zs) (hB : IntsAt w B .i64 zs) (hz : zs.length ≤ 1048576) : Calls Tryz.prog 34 #[.slice A n ca, .slice B n cb] w fun e w' => e = .returned (.bool true) ∧ Below w.heap.size w w' := by
  have h := eqlongs_any A B ca cb zs zs w hA hB hz
  rw [decide_eq_true rfl, hn] at h
  exact h
theorem eqw_same {A B : Option Addr} {ca cb n : Nat} {zs : List Int} {w : World} (hn : zs.length = n) (hA : IntsAt w A .u32 zs) (hB : IntsAt w B .u32 zs) (hz : zs.length ≤ 1048576) : Calls Tryz.prog 33 #[.slice A n ca, .slice B n cb] w fun e w' => e = .returned (.bool true) ∧ Below w.heap.size w w' := by
  have h := eqwords_any A B ca cb zs zs w hA hB hz
  rw [decide_eq_true rfl, hn] at h
  exact h
theorem block_ints {w : World} {B : Nat} {K : IntKind} {t : TypeId} {zs : List Int} (h : w.heap[B]? = some (.cells (zs.map (Value.int K)).toArray t (0, 0))) : IntsAt w (some ⟨B, 0, none⟩) K zs := fun i hi => by
  refine ⟨_, rfl, ?_⟩
  have := Lib.cell_of_heap h i
  rw [show ((⟨B, 0, none⟩ : Addr).add i) = ⟨B, i, none⟩ by simp [Addr.add]; exact fun h => h.symm]
  rw [this]
  simp [nth, List.getD_eq_getElem?_getD, List.getElem?_eq_getElem hi]
set_option maxHeartbeats 8000000 in
set_option maxRecDepth 100000 in
theorem lives_any (L : ProgL) (B : ProgB) (w : World) : Calls Tryz.prog 6 #[] w fun e w' => e = .returned (.bool true) ∧ Below w.heap.size w w' := by
  go_enter Tryz.func6, Tryz.ntmps6
  go_wp2_with fail
  refine (two_any _).mono ?_
  rintro e w1 ⟨a1, q1, rfl, hi1, hb1⟩
  have HB1 : Hid (Below w.heap.size w w1) := hb1
  have C1 := link_two (ca := 2) L hi1
  clear hb1 hi1
  go_wp2_with fail
  refine C1.mono ?_
  rintro e w2 ⟨T1, T2, c1, c2, rfl, ht, hm, hb2⟩
  have HB2 : Hid (Below w.heap.size w (w2.alloc (.cells #[.slice T1 6 c1, .int .i64 0, .slice T2 4 c2] 29))) := lb_alloc (lb_trans HB1.out hb2) _
  have HT : Hid (IntsAt (w2.alloc (.cells #[.slice T1 6 c1, .int .i64 0, .slice T2 4 c2] 29)) T1 .u32 [2281701379, 2818572288, 0, 142606341, 2558001152, 0]) := ht.keep (lb_alloc (Below.refl _ _) _)
  have HM : Hid (IntsAt (w2.alloc (.cells #[.slice T1 6 c1, .int .i64 0, .slice T2 4 c2] 29)) T2 .i64 [0, 7, 8, 0]) := hm.keep (lb_alloc (Below.refl _ _) _)
  have HX : Hid ((w2.alloc (.cells #[.slice T1 6 c1, .int .i64 0, .slice T2 4 c2] 29)).heap[w2.heap.size]? = some (.cells #[.slice T1 6 c1, .int .i64 0, .slice T2 4 c2] 29 (0, 0))) := heap_alloc_new _ _
  clear C1 hb2 ht hm HB1
  go_wp2_with fail
  refine (two_any _).mono ?_
  rintro e w3 ⟨a3, q3, rfl, hi3, hb3⟩
  have HK3 : Hid _ := hb3
  have C3 := link_one (ca := 2) L hi3
  clear hb3 hi3
  go_wp2_with fail
  refine C3.mono ?_
  rintro e w4 ⟨S1, S2, n1, n2, s1, s2, Nn, rfl, hb4⟩
  have HK4 : Hid _ := lb_alloc (lb_trans HK3.out hb4) (.cells #[.slice S1 n1 s1, .int .i64 Nn, .slice S2 n2 s2] 29)
  clear C3 hb4 HK3
  go_wp2_with fail
  refine (two_any _).mono ?_
  rintro e w5 ⟨a5, q5, rfl, hi5, hb5⟩
  have HK5 : Hid _ := lb_trans HK4.out hb5
  have C5 := bases_two (ca := 2) B hi5
  clear hb5 hi5 HK4
  go_wp2_with fail
  refine C5.mono ?_
  rintro e w6 ⟨P, cp, rfl, hp, hb6⟩
  have HK6 : Hid _ := lb_trans HK5.out hb6
  have C6 := eqi_same (ca := cp) (cb := 2) (n := 2) (zs := [0, 3]) rfl (hp.keep (lb_alloc (Below.refl _ _) (.cells #[.int .i64 0, .int .i64 3] 3))) (block_ints (w := w6.alloc (.cells #[.int .i64 0, .int .i64 3] 3)) (heap_alloc_new w6 (.cells #[.int .i64 0, .int .i64 3] 3))) (by decide)
  have HK6' : Hid _ := lb_alloc HK6.out (.cells #[.int .i64 0, .int .i64 3] 3)
  clear C5 hb6 hp HK5 HK6
  go_wp2_with fail
  refine C6.mono ?_
  rintro e w7 ⟨rfl, hb7⟩
  have HK7 : Hid _ := lb_trans HK6'.out hb7
  clear C6 hb7 HK6'
  obtain ⟨d0, d1, d2⟩ := zbox3_cell (lb_box HX.out HK7.out)
  have C8 := eqw_same (ca := c1) (cb := 6) (n := 6) (zs := [2281701379, 2818572288, 0, 142606341, 2558001152, 0]) rfl (HT.out.keep (lb_alloc HK7.out (.cells #[.int .u32 2281701379, .int .u32 2818572288, .int .u32 0, .int .u32 142606341, .int .u32 2558001152, .int .u32 0] 78))) (block_ints (heap_alloc_new w7 (.cells #[.int .u32 2281701379, .int .u32 2818572288, .int .u32 0, .int .u32 142606341, .int .u32 2558001152, .int .u32 0] 78))) (by decide)
  have HK7' : Hid _ := lb_alloc HK7.out (.cells #[.int .u32 2281701379, .int .u32 2818572288, .int .u32 0, .int .u32 142606341, .int .u32 2558001152, .int .u32 0] 78)
  clear HK7
  go_wp2_with fail
  refine C8.mono ?_
  rintro e w8 ⟨rfl, hb8⟩
  have HK8 : Hid _ := lb_trans HK7'.out hb8
  clear C8 hb8 HK7' d0 d1 d2
  obtain ⟨d0, d1, d2⟩ := zbox3_cell (lb_box HX.out HK8.out)
  have C9 := eql_same (ca := c2) (cb := 4) (n := 4) (zs := [0, 7, 8, 0]) rfl (HM.out.keep (lb_alloc HK8.out (.cells #[.int .i64 0, .int .i64 7, .int .i64 8, .int .i64 0] 2))) (block_ints (heap_alloc_new w8 (.cells #[.int .i64 0, .int .i64 7, .int .i64 8, .int .i64 0] 2))) (by decide)
  have HK8' : Hid _ := lb_alloc HK8.out (.cells #[.int .i64 0, .int .i64 7, .int .i64 8, .int .i64 0] 2)
  clear HK8
  go_wp2_with fail
  refine C9.mono ?_
  rintro e w9 ⟨rfl, hb9⟩
  have HB9 : Hid (Below w.heap.size w w9) := lb_trans HB2.out (lb_trans HK8'.out hb9)
  clear C9 hb9 HK8' d0 d1 d2
  go_wp2
  go_ret
  exact ⟨rfl, HB9.out⟩


end Go.Proofs.YthpkekpojhmaaaaGreatDoor

namespace Go.Proofs.YthpkekpojhmaaaaGreatDoor
open Go.RowKit

theorem at1_any (a b p : Int) (g : Nat) (w : World) (hc : w.cell? ⟨g, 0, none⟩ = some (.int .i64 p)) : Calls Tryz.prog 80 #[.agg #[.int .i64 a, .int .i64 b], .pointer (some ⟨g, 0, none⟩)] w fun e w' => e = .returned (.bool (a == p)) ∧ Below w.heap.size w w' := by
  have hc1 : (w.alloc (.cells #[.int .i64 a, .int .i64 b] 83)).cell? ⟨g, 0, none⟩ = some (.int .i64 p) := lkeep (lb_alloc (Below.refl _ _) _) hc
  go_enter Tryz.func80, Tryz.ntmps80
  go_wp2
  go_ret
  exact ⟨rfl, lb_alloc (Below.refl _ _) _⟩
set_option maxRecDepth 100000 in
set_option maxHeartbeats 1000000 in
theorem idxrel_any (A : Option Addr) (cp : Nat) (zs : List Rel) (p : Int) (g : Nat) (w : World) (hA : RelsAt w A zs) (hc : w.cell? ⟨g, 0, none⟩ = some (.int .i64 p)) (hz : zs.length ≤ 1048576) :
    Calls Tryz.prog 79 #[.slice A zs.length cp, .func (.func 80) #[] #[.pointer (some ⟨g, 0, none⟩)]] w fun e w' => e = .returned (.int .i64 (atR zs p)) ∧ Below w.heap.size w w' := by
  go_enter Tryz.func79, Tryz.ntmps79
  go_wp2
  go_loopw [8] (fun i wr => ∃ k : Nat, i = .int .i64 k ∧ k ≤ zs.length ∧ Below w.heap.size w wr ∧ Hid (atFrom (zs.drop k) p k = atR zs p)) (fun i _ => zs.length - (intOf i).toNat)
  case atStart => exact ⟨0, rfl, by omega, Below.refl _ _, rfl⟩
  case round =>
    obtain ⟨k, rfl, hk, hB, HT⟩ := hrel
    rename_i wr _
    have HB : Hid (Below w.heap.size w wr) := hB
    clear hB
    by_cases hlt : k < zs.length
    · obtain ⟨a, rfl, c0, c1'⟩ := (hA.keep HB.out) k hlt
      have d1 : wr.cell? ⟨(a.add (k * 2)).block, (a.add (k * 2)).off + 1, none⟩ = some (.int .i64 (rSym zs k)) := c1'
      clear c1'
      have hg := lkeep HB.out hc
      have C := at1_any (rAt zs k) (rSym zs k) p g wr hg
      cases he : (rAt zs k == p) with
      | false =>
        have HE : Hid _ := at_miss hlt he
        rw [he] at C
        clear he
        go_wp2_with (go_at_call 80; refine C.mono ?_; rintro e w2 ⟨rfl, hb2⟩)
        have HB2 : Hid (Below w.heap.size w _) := lb_trans HB.out (by assumption)
        go_roundw
        case rel => exact ⟨k + 1, by go_num, by omega, HB2.out, by rw [Hid, ← HE.out]; exact HT.out⟩
        case measure => simp [intOf]; omega
      | true =>
        have HE : Hid _ := at_hit hlt he
        rw [he] at C
        clear he
        go_wp2_with (go_at_call 80; refine C.mono ?_; rintro e w2 ⟨rfl, hb2⟩)
        have HB2 : Hid (Below w.heap.size w _) := lb_trans HB.out (by assumption)
        go_ret
        exact ⟨retI (by rw [← HT.out, HE.out]), HB2.out⟩
    · have HE : Hid _ := at_end (p := p) (by omega : zs.length ≤ k)
      go_wp2
      go_ret
      exact ⟨retI (by rw [← HT.out, HE.out]), HB.out⟩
theorem objat_any (nm : ByteArray) (dA : Int) (A1 A2 A4 A : Option Addr) (n1 c1 n2 c2 n4 c4 cp : Nat) (zs : List Rel) (s : Int) (w : World) (hA : RelsAt w A zs) (hz : zs.length ≤ 1048576) : Calls Tryz.prog 26 #[.agg #[.string nm, .slice A1 n1 c1, .int .i64 dA, .slice A2 n2 c2, .slice A4 n4 c4, .slice A zs.length cp], .int .i64 s] w fun e w' => e = .returned (.int .i64 (atR zs s)) ∧ Below w.heap.size w w' := by
  have hmf := mkFn
  go_enter Tryz.func26, Tryz.ntmps26
  go_wp2_with fail
  refine (idxrel_any A cp zs s _ _ (hA.keep ?bel) ?cel hz).mono ?_
  case bel => exact lb_alloc (lb_alloc (Below.refl _ _) _) _
  case cel => simp [go_sem]
  rintro e w1 ⟨rfl, hb⟩
  have HB : Hid (Below w.heap.size w w1) := lb_trans (lb_alloc (lb_alloc (Below.refl _ _) _) _) hb
  clear hb
  go_wp2
  go_ret
  exact ⟨rfl, HB.out⟩


end Go.Proofs.YthpkekpojhmaaaaGreatDoor

namespace Go.Proofs.YthpkekpojhmaaaaGreatDoor
open Go.RowKit

/-- All blocks but those of one type stay. -/
def QuietT (T : TypeId) (w w' : World) : Prop := ∀ (b : Nat) (cur : Array Value) (t : TypeId), w.heap[b]? = some (.cells cur t (0, 0)) → t ≠ T → w'.heap[b]? = w.heap[b]?
theorem QuietT.trans {T : TypeId} {w w1 w2 : World} (h : QuietT T w w1) (k : QuietT T w1 w2) : QuietT T w w2 := fun b cur t hb ht => by
  have e := h b cur t hb ht
  rw [k b cur t (by rw [e]; exact hb) ht, e]
theorem below_quiet {T : TypeId} {w w' : World} (h : Below w.heap.size w w') : QuietT T w w' := fun b _ _ hb _ => h.block b (Array.getElem?_eq_some_iff.1 hb).1
theorem own_quiet {T : TypeId} {w w' : World} {base : Nat} {e : TypeId} {size : Nat} {v : Value} {n : Nat} {xs : List Value} (h : w.ownsRow base e size v n xs) (he : e ≠ T) (hq : QuietT T w w') : w'.ownsRow base e size v n xs :=
  own_same h fun b hb => by
    obtain ⟨cur, hc⟩ := own_block h hb
    exact hq b cur e hc he
/-- An append to a row of the type leaves the others. -/
theorem grown_quiet {T : TypeId} {w w1 : World} {base size n : Nat} {V : Value} {xs : List Value} (o : Obj) (h : w.ownsRow base T size V n xs) (hg : (w.alloc o).grownBy w1 V.ownBlock) : QuietT T w w1 := fun b cur t hb ht => by
  have hlt := (Array.getElem?_eq_some_iff.1 hb).1
  rw [hg.block b (by simp; omega) (fun e => ?_), Below.heap_alloc w o b hlt]
  obtain ⟨c2, h2⟩ := own_block h (b := b) (by first | exact e | exact e.symm)
  rw [hb] at h2
  simp only [Option.some.injEq, Obj.cells.injEq] at h2
  exact ht h2.2.1
/-- The cells of objects. -/
def gCells (p : Pl) (o : Ob) : List Value := [.string o.nm, .slice p.A1 o.code.length p.c1, .int .i64 o.dA, .slice p.A2 o.data.length p.c2, .slice p.A3 o.ss.length p.c3, .slice p.A4 o.rs.length p.c4]
def gsCells (q : Nat → Pl) (l : List Ob) : Nat → List Value
  | 0 => []
  | k + 1 => gsCells q l k ++ gCells (q k) (ob l k)
theorem gsCells_len (q : Nat → Pl) (l : List Ob) : ∀ k, (gsCells q l k).length = k * 6
  | 0 => rfl
  | k + 1 => by rw [gsCells, List.length_append, gsCells_len q l k]; simp [gCells]; omega
theorem gsCells_get (q : Nat → Pl) (l : List Ob) : ∀ {k i j : Nat}, i < k → j < 6 → (gsCells q l k)[i * 6 + j]? = (gCells (q i) (ob l i))[j]?
  | 0, _, _, h, _ => by omega
  | k + 1, i, j, h, hj => by
    rw [gsCells]
    by_cases he : i = k
    · subst he
      rw [List.getElem?_append_right (by rw [gsCells_len]; omega), gsCells_len, show i * 6 + j - i * 6 = j by omega]
    · rw [List.getElem?_append_left (by rw [gsCells_len]; omega)]
      exact gsCells_get q l (by omega) hj
/-- Other places behind k do not matter. -/
theorem gsCells_upd {q q' : Nat → Pl} {l : List Ob} : ∀ {k : Nat}, (∀ i, i < k → q i = q' i) → gsCells q l k = gsCells q' l k
  | 0, _ => rfl
  | k + 1, h => by rw [gsCells, gsCells, gsCells_upd (k := k) (fun i hi => h i (by omega)), h k (by omega)]
def updQ (q : Nat → Pl) (k : Nat) (p : Pl) : Nat → Pl := fun i => if i = k then p else q i
theorem updQ_old {q : Nat → Pl} {k i : Nat} {p : Pl} (h : i < k) : updQ q k p i = q i := by unfold updQ; rw [if_neg (by omega)]
theorem updQ_new {q : Nat → Pl} {k : Nat} {p : Pl} : updQ q k p k = p := by unfold updQ; rw [if_pos rfl]
theorem gsCells_next (q : Nat → Pl) (l : List Ob) (k : Nat) (p : Pl) : gsCells (updQ q k p) l (k + 1) = gsCells q l k ++ gCells p (ob l k) := by
  rw [gsCells, updQ_new, gsCells_upd (q := updQ q k p) (q' := q) (fun i hi => updQ_old hi)]
theorem gr_obs {w : World} {base c : Nat} {A : Option Addr} {q : Nat → Pl} {l : List Ob} {T : TypeId} (h : w.ownsRow base T 6 (.slice A l.length c) l.length (gsCells q l l.length)) : ObsAt w A q l := fun i hi => by
  rcases h.2 with ⟨_, h0⟩ | ⟨j, cap, cur, hv, hb, hg, hc, _⟩
  · omega
  · cases hv
    have g := fun j hj => gsCells_get q l (k := l.length) (i := i) (j := j) hi hj
    have g0 := g 0 (by omega)
    rw [Nat.add_zero] at g0
    exact ⟨_, rfl, h.cells rfl _ _ g0, by rw [zadd_add]; exact h.cells rfl _ _ (g 1 (by omega)), by rw [zadd_add]; exact h.cells rfl _ _ (g 2 (by omega)), by rw [zadd_add]; exact h.cells rfl _ _ (g 3 (by omega)), by rw [zadd_add]; exact h.cells rfl _ _ (g 4 (by omega)), by rw [zadd_add]; exact h.cells rfl _ _ (g 5 (by omega))⟩
/-- Objects that were read so far: a list of its own, and of each what P says, which only blocks of other types may unmake. -/
structure Grown (T : TypeId) (P : World → Pl → Ob → Prop) (w : World) (base : Nat) (V : Value) (q : Nat → Pl) (l : List Ob) (k : Nat) : Prop where
  row : w.ownsRow base T 6 V k (gsCells q l k)
  each : ∀ i, i < k → P w (q i) (ob l i)
theorem Grown.start (T : TypeId) (P : World → Pl → Ob → Prop) (w : World) (base : Nat) (q : Nat → Pl) (l : List Ob) : Grown T P w base (.slice none 0 0) q l 0 :=
  ⟨World.ownsRow_nil _ _ _ _, fun i hi => by omega⟩
theorem Grown.keep {T : TypeId} {P : World → Pl → Ob → Prop} {w w' : World} {base : Nat} {V : Value} {q : Nat → Pl} {l : List Ob} {k : Nat} (h : Grown T P w base V q l k) (hP : ∀ w w' p o, P w p o → QuietT T w w' → P w' p o) (hb : Below w.heap.size w w') : Grown T P w' base V q l k :=
  ⟨zrow_keep h.row hb, fun i hi => hP _ _ _ _ (h.each i hi) (below_quiet hb)⟩
theorem Grown.next {T : TypeId} {P : World → Pl → Ob → Prop} {w w1 : World} {base : Nat} {V V1 : Value} {q : Nat → Pl} {l : List Ob} {k : Nat} {p : Pl} (h : Grown T P w base V q l k) (hP : ∀ w w' p o, P w p o → QuietT T w w' → P w' p o) (hp : P w p (ob l k)) (o : Obj) (hown : w1.ownsRow base T 6 V1 (k + 1) (gsCells q l k ++ gCells p (ob l k))) (hg : (w.alloc o).grownBy w1 V.ownBlock) : Grown T P w1 base V1 (updQ q k p) l (k + 1) := by
  have hq := grown_quiet o h.row hg
  refine ⟨by rw [gsCells_next]; exact hown, fun i hi => ?_⟩
  by_cases he : i = k
  · subst he
    rw [updQ_new]
    exact hP _ _ _ _ hp hq
  · rw [updQ_old (by omega)]
    exact hP _ _ _ _ (h.each i (by omega)) hq


end Go.Proofs.YthpkekpojhmaaaaGreatDoor
