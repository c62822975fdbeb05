/-
  What recovers a refusal: the deferred closure of taken, entered of a frame that panics, and of one that returns.
-/
import Derived.Test.YtfaekkbblpfbhaaDoorProg
import Derived.WalkKit
import Derived.WalkSpells
import Derived.WalkLawsBesides
import Derived.RowKit3
import Derived.Below
import Derived.Deep.QuietTactic
import Derived.BigQuiet
import Derived.WalkSmall
import Derived.Laws.Rows
import Derived.Test.YtfaekkbblpfbhaaDoorIr08
import Derived.Defers
import Derived.Recover
namespace Go.Proofs.YtfaekkbblpfbhaaDoor
open Go.RowKit

theorem ta_nil (w : World) : (Instr.typeAssert .nilIface 20 85 true).run Tryd.prog w = .ok (.tuple #[.agg #[.int .i64 0, .int .i64 0], .bool false]) w := by kernel_rfl
theorem ta_stop (e q : Int) (w : World) : (Instr.typeAssert (.iface 85 (.agg #[.int .i64 e, .int .i64 q])) 20 85 true).run Tryd.prog w = .ok (.tuple #[.agg #[.int .i64 e, .int .i64 q], .bool true]) w := by kernel_rfl
set_option maxRecDepth 100000 in
set_option maxHeartbeats 1000000 in
theorem catch_idle (p : Addr) (w : World) :
    CallsD Tryd.prog 78 #[.pointer (some p)] .returning w fun e u' w' => e = .returned (.tuple #[]) ∧ u' = .returning ∧ w' = w.alloc (.cells #[.int .i64 0, .int .i64 0] 85) := by
  refine callsD_of_wpS Tryd.func78 rfl fun c₀ cs hu => ?_
  apply wpS_seq
  apply wpS_region
  simp [wpOpsS, go_sem, recoverD, hu, Tryd.ntmps78, Exit.thenS, ta_nil]
  apply wpS_seq
  apply wpS_region
  simp [wpOpsS, go_sem, Exit.thenS]
  refine wpS_cond (t := false) (by simp [Act.eval, Array.replicate]) ?_
  simp only [Bool.false_eq_true, if_false]
  refine wpS_of_wp (wp_skip ?_)
  cases c₀
  simp_all [bodyPostS, results, Tryd.results78]
set_option maxRecDepth 100000 in
set_option maxHeartbeats 1000000 in
theorem catch_stop (g : Nat) (e q : Int) (x y : Value) (older : List PanicEntry) (w : World) (hb : w.heap[g]? = some (.cells #[x, y] 85 (0, 0))) :
    CallsD Tryd.prog 78 #[.pointer (some ⟨g, 0, none⟩)] (.panicking ({ v := .iface 85 (.agg #[.int .i64 e, .int .i64 q]), recovered := false } :: older)) w fun r u' w' =>
      r = .returned (.tuple #[]) ∧ u' = .panicking ({ v := .iface 85 (.agg #[.int .i64 e, .int .i64 q]), recovered := true } :: older) ∧ w' = ((w.alloc (.cells #[.int .i64 e, .int .i64 q] 85)).setCell ⟨g, 0, none⟩ (.int .i64 e)).setCell ⟨g, 1, none⟩ (.int .i64 q) := by
  refine callsD_of_wpS Tryd.func78 rfl fun c₀ cs hu => ?_
  apply wpS_seq
  apply wpS_region
  simp [wpOpsS, go_sem, recoverD, hu, Tryd.ntmps78, Exit.thenS, ta_stop]
  have hb1 : (w.alloc (.cells #[.int .i64 e, .int .i64 q] 85)).heap[g]? = some (.cells #[x, y] 85 (0, 0)) := lb_box hb (lb_alloc (Below.refl _ _) _)
  have d0 : (w.alloc (.cells #[.int .i64 e, .int .i64 q] 85)).cell? ⟨g, 0, none⟩ = some x := by simp [World.cell?, hb1]
  have d1 : (w.alloc (.cells #[.int .i64 e, .int .i64 q] 85)).cell? ⟨g, 1, none⟩ = some y := by simp [World.cell?, hb1]
  have f0 : (w.alloc (.cells #[.int .i64 e, .int .i64 q] 85)).frozen? ⟨g, 0, none⟩ = false := by simp [World.frozen?, hb1]
  have f1 : (w.alloc (.cells #[.int .i64 e, .int .i64 q] 85)).frozen? ⟨g, 1, none⟩ = false := by simp [World.frozen?, hb1]
  clear hb hb1
  apply wpS_seq
  apply wpS_region
  simp [wpOpsS, go_sem, Exit.thenS]
  refine wpS_cond (t := true) (by simp [Act.eval, Array.replicate]) ?_
  simp only [if_true]
  apply wpS_region
  simp [wpOpsS, go_sem, d0, d1, f0, f1, bodyPostS, results, Tryd.results78, Array.replicate]

end Go.Proofs.YtfaekkbblpfbhaaDoor
