/-
  The small functions of package word and of the document's answer, each by what it returns: Plain, Sealed, truth, sealFault and the closures of operation; no condition.
-/
import Derived.Test.YtbdmhhejpomeiaaDoorProg
import Derived.WalkKit
import Derived.WalkSpells
import Derived.WalkLawsBesides
import Derived.RowKit3
import Derived.Below
namespace Go.Proofs.YtbdmhhejpomeiaaDoor
open Go.RowKit

theorem plain_any (v : Int) (w : World) : Calls Tryd.prog 9 #[.int .i64 v] w fun e w' =>
    e = .returned (.agg #[.int .i64 v, .bool false]) ∧ w' = w.alloc (.cells #[.int .i64 v, .bool false] 24) := by
  go_enter Tryd.func9, Tryd.ntmps9
  go_wp2
  simp [bodyPost, results, Tryd.results9, go_sem]

theorem sealed_any (v : Int) (w : World) : Calls Tryd.prog 10 #[.int .i64 v] w fun e w' =>
    e = .returned (.agg #[.int .i64 v, .bool true]) ∧ w' = w.alloc (.cells #[.int .i64 v, .bool true] 24) := by
  go_enter Tryd.func10, Tryd.ntmps10
  go_wp2
  simp [bodyPost, results, Tryd.results10, go_sem]

theorem sealFault_any (b : Bool) (w : World) : Calls Tryd.prog 32 #[.bool b] w fun e w' =>
    e = .returned (.int .i8 (if b then 4 else 0)) ∧ w' = w := by
  cases b
  · go_enter Tryd.func32, Tryd.ntmps32
    go_wp2
    go_ret
    exact ⟨rfl, rfl⟩
  · go_enter Tryd.func32, Tryd.ntmps32
    go_wp2
    go_ret
    exact ⟨rfl, rfl⟩

theorem truth_any (b : Bool) (w : World) : Calls Tryd.prog 30 #[.bool b] w fun e w' =>
    e = .returned (.int .i64 (if b then 1 else 0)) ∧ w' = w := by
  cases b
  · go_enter Tryd.func30, Tryd.ntmps30
    go_wp2
    go_ret
    exact ⟨rfl, rfl⟩
  · go_enter Tryd.func30, Tryd.ntmps30
    go_wp2
    go_ret
    exact ⟨rfl, rfl⟩

theorem reftruth_any (b : Bool) (w : World) : Calls Tryd.prog 20 #[.bool b] w fun e w' =>
    e = .returned (.agg #[.int .i64 (if b then 1 else 0), .bool false]) ∧ w' = w.alloc (.cells #[.int .i64 (if b then 1 else 0), .bool false] 24) := by
  cases b
  · go_enter Tryd.func20, Tryd.ntmps20
    go_wp2
    simp [bodyPost, results, Tryd.results20, go_sem]
  · go_enter Tryd.func20, Tryd.ntmps20
    go_wp2
    simp [bodyPost, results, Tryd.results20, go_sem]

theorem bel_alloc {w w' : World} (h : Below w.heap.size w w') (o : Obj) : Below w.heap.size w (w'.alloc o) := h.alloc h.size o

end Go.Proofs.YtbdmhhejpomeiaaDoor
