/-
  Address of package word and of the document's answer return the same two numbers for every word, number and size, and the law over them returns true; no condition.
-/
import Derived.Test.YtgkdagnpefgjcaaGreatProg
import Derived.Deep.RegionHeld3
import Derived.Laws.Pointers
import Derived.Outline
import Derived.StillTactics
import Derived.Test.YtgkdagnpefgjcaaGreatPr20
import Derived.Test.YtgkdagnpefgjcaaGreatPr21
namespace Go.Proofs.YtgkdagnpefgjcaaGreat
open Go.RowKit

/-- The address. -/
def addrV (x n z : Int) (p : Bool) : Int := if p then 0 else if wrap64 (x + n) < 0 ∨ z ≤ wrap64 (x + n) then 0 else wrap64 (x + n)
/-- The fault. -/
def addrE (x n z : Int) (p : Bool) : Int := if p then 4 else if wrap64 (x + n) < 0 ∨ z ≤ wrap64 (x + n) then 5 else 0

theorem addr_any (x n z : Int) (p : Bool) (w : World) : Calls Tryz.prog 90 #[.agg #[.int .i64 x, .bool p], .int .i64 n, .int .i64 z] w fun e w' =>
    e = .returned (.tuple #[.int .i64 (addrV x n z p), .int .i8 (addrE x n z p)]) ∧ w' = w.alloc (.cells #[.int .i64 x, .bool p] 65) := by
  unfold addrV addrE
  cases p
  · by_cases h1 : wrap64 (x + n) < 0
    · go_enter Tryz.func90, Tryz.ntmps90
      go_wp2
      go_ret2
      exact ⟨by simp, rfl⟩
    · by_cases h2 : z ≤ wrap64 (x + n)
      · go_enter Tryz.func90, Tryz.ntmps90
        go_wp2
        go_ret2
        exact ⟨by simp, rfl⟩
      · go_enter Tryz.func90, Tryz.ntmps90
        go_wp2
        go_ret2
        exact ⟨by simp, rfl⟩
  · go_enter Tryz.func90, Tryz.ntmps90
    go_wp2
    go_ret2
    exact ⟨rfl, rfl⟩




end Go.Proofs.YtgkdagnpefgjcaaGreat
