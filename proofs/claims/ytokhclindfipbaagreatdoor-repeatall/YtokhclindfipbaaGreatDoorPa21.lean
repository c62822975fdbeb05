/-
  Whether a field may be, by the document's answer: register and number; no condition.
-/
import Derived.Test.YtokhclindfipbaaGreatDoorProg
import Derived.WalkKit
import Derived.WalkSpells
import Derived.WalkLawsBesides
import Derived.RowKit3
import Derived.Below
import Derived.Test.YtokhclindfipbaaGreatDoorPa03
namespace Go.Proofs.YtokhclindfipbaaGreatDoor
open Go.RowKit

theorem register_any (h : Bool) (r : Int) (w : World) : Calls Tryz.prog 96 #[.bool h, .int .i8 r] w fun e w' => e = .returned (.bool (regOK h r)) ∧ w' = w := by
  unfold regOK
  cases h
  · go_enter Tryz.func96, Tryz.ntmps96
    go_wp2
    go_ret
    exact ⟨by first | rfl | (simp; done) | (simp; omega), rfl⟩
  · by_cases h1 : 0 ≤ r
    · go_enter Tryz.func96, Tryz.ntmps96
      go_wp2
      go_ret
      exact ⟨by first | rfl | (simp; done) | (simp; omega), rfl⟩
    · go_enter Tryz.func96, Tryz.ntmps96
      go_wp2
      go_ret
      exact ⟨by first | rfl | (simp; done) | (simp; omega), rfl⟩

theorem number_any (x1 x2 x3 n p : Bool) (x : Int) (w : World) : Calls Tryz.prog 97 #[.agg #[.bool x1, .bool x2, .bool x3, .bool n, .bool p], .int .i64 x] w fun e w' =>
    e = .returned (.bool (numOK n p x)) ∧ w' = w.alloc (.cells #[.bool x1, .bool x2, .bool x3, .bool n, .bool p] 148) := by
  unfold numOK
  cases n
  · go_enter Tryz.func97, Tryz.ntmps97
    go_wp2
    go_ret
    exact ⟨by first | rfl | (simp; done) | (simp; omega), rfl⟩
  · cases p
    · by_cases h1 : -16384 ≤ x
      · go_enter Tryz.func97, Tryz.ntmps97
        go_wp2
        go_ret
        exact ⟨by first | rfl | (simp; done) | (simp; omega), rfl⟩
      · go_enter Tryz.func97, Tryz.ntmps97
        go_wp2
        go_ret
        exact ⟨by first | rfl | (simp; done) | (simp; omega), rfl⟩
    · by_cases h1 : 0 ≤ x
      · go_enter Tryz.func97, Tryz.ntmps97
        go_wp2
        go_ret
        exact ⟨by first | rfl | (simp; done) | (simp; omega), rfl⟩
      · go_enter Tryz.func97, Tryz.ntmps97
        go_wp2
        go_ret
        exact ⟨by first | rfl | (simp; done) | (simp; omega), rfl⟩









end Go.Proofs.YtokhclindfipbaaGreatDoor
