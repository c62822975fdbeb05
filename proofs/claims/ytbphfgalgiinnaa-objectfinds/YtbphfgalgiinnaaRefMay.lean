/-
  Whether a field may be, by the document's answer: register and number; no condition.
-/
import Derived.Test.YtbphfgalgiinnaaProg
import Derived.Test.YtbphfgalgiinnaaIns
import Derived.WalkKit
import Derived.WalkSpells
import Derived.WalkLawsBesides
import Derived.RowKit3
import Derived.Below
namespace Go.Proofs.Ytbphfgalgiinnaa
open Go.RowKit

theorem register_any (h : Bool) (r : Int) (w : World) : Calls Try.prog 71 #[.bool h, .int .i8 r] w fun e w' => e = .returned (.bool (regOK h r)) ∧ w' = w := by
  unfold regOK
  cases h
  · go_enter Try.func71, Try.ntmps71
    go_wp2
    go_ret
    exact ⟨by first | rfl | (simp; done) | (simp; omega), rfl⟩
  · by_cases h1 : 0 ≤ r
    · go_enter Try.func71, Try.ntmps71
      go_wp2
      go_ret
      exact ⟨by first | rfl | (simp; done) | (simp; omega), rfl⟩
    · go_enter Try.func71, Try.ntmps71
      go_wp2
      go_ret
      exact ⟨by first | rfl | (simp; done) | (simp; omega), rfl⟩

theorem number_any (x1 x2 x3 n p : Bool) (x : Int) (w : World) : Calls Try.prog 72 #[.agg #[.bool x1, .bool x2, .bool x3, .bool n, .bool p], .int .i64 x] w fun e w' =>
    e = .returned (.bool (numOK n p x)) ∧ w' = w.alloc (.cells #[.bool x1, .bool x2, .bool x3, .bool n, .bool p] 82) := by
  unfold numOK
  cases n
  · go_enter Try.func72, Try.ntmps72
    go_wp2
    go_ret
    exact ⟨by first | rfl | (simp; done) | (simp; omega), rfl⟩
  · cases p
    · by_cases h1 : -16384 ≤ x
      · go_enter Try.func72, Try.ntmps72
        go_wp2
        go_ret
        exact ⟨by first | rfl | (simp; done) | (simp; omega), rfl⟩
      · go_enter Try.func72, Try.ntmps72
        go_wp2
        go_ret
        exact ⟨by first | rfl | (simp; done) | (simp; omega), rfl⟩
    · by_cases h1 : 0 ≤ x
      · go_enter Try.func72, Try.ntmps72
        go_wp2
        go_ret
        exact ⟨by first | rfl | (simp; done) | (simp; omega), rfl⟩
      · go_enter Try.func72, Try.ntmps72
        go_wp2
        go_ret
        exact ⟨by first | rfl | (simp; done) | (simp; omega), rfl⟩


end Go.Proofs.Ytbphfgalgiinnaa
