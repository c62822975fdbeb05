/-
  The small functions of package word and of the document's answer, each by what it returns: Plain, Sealed, truth, sealFault and the closures of operation; no condition.
-/
import Derived.Test.YtgkdagnpefgjcaaGreatProg
import Derived.WalkKit
import Derived.WalkSpells
import Derived.WalkLawsBesides
import Derived.RowKit3
import Derived.Below
namespace Go.Proofs.YtgkdagnpefgjcaaGreat
open Go.RowKit

theorem plain_any (v : Int) (w : World) : Calls Tryz.prog 21 #[.int .i64 v] w fun e w' =>
    e = .returned (.agg #[.int .i64 v, .bool false]) ∧ w' = w.alloc (.cells #[.int .i64 v, .bool false] 65) := by
  go_enter Tryz.func21, Tryz.ntmps21
  go_wp2
  simp [bodyPost, results, Tryz.results21, go_sem]

theorem sealed_any (v : Int) (w : World) : Calls Tryz.prog 77 #[.int .i64 v] w fun e w' =>
    e = .returned (.agg #[.int .i64 v, .bool true]) ∧ w' = w.alloc (.cells #[.int .i64 v, .bool true] 65) := by
  go_enter Tryz.func77, Tryz.ntmps77
  go_wp2
  simp [bodyPost, results, Tryz.results77, go_sem]

theorem sealFault_any (b : Bool) (w : World) : Calls Tryz.prog 106 #[.bool b] w fun e w' =>
    e = .returned (.int .i8 (if b then 4 else 0)) ∧ w' = w := by
  cases b
  · go_enter Tryz.func106, Tryz.ntmps106
    go_wp2
    go_ret
    exact ⟨rfl, rfl⟩
  · go_enter Tryz.func106, Tryz.ntmps106
    go_wp2
    go_ret
    exact ⟨rfl, rfl⟩

theorem truth_any (b : Bool) (w : World) : Calls Tryz.prog 104 #[.bool b] w fun e w' =>
    e = .returned (.int .i64 (if b then 1 else 0)) ∧ w' = w := by
  cases b
  · go_enter Tryz.func104, Tryz.ntmps104
    go_wp2
    go_ret
    exact ⟨rfl, rfl⟩
  · go_enter Tryz.func104, Tryz.ntmps104
    go_wp2
    go_ret
    exact ⟨rfl, rfl⟩

theorem wbel_alloc {w w' : World} (h : Below w.heap.size w w') (o : Obj) : Below w.heap.size w (w'.alloc o) := h.alloc h.size o




end Go.Proofs.YtgkdagnpefgjcaaGreat
