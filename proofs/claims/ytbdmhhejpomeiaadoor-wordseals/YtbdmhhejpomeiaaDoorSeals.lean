/-
  The law WordSeals returns true for every op, two words and every number by which sealed words are moved, and leaves what was there; its two numbers are of 64 bits.
-/
import Derived.Test.YtbdmhhejpomeiaaDoorWorks
import Derived.Test.YtbdmhhejpomeiaaDoorCalc
namespace Go.Proofs.YtbdmhhejpomeiaaDoor
open Go.RowKit

/-- A word's number, moved if the word is sealed. -/
def mv (x k : Int) (p : Bool) : Int := if p then wrap64 (x + k) else x

theorem moved_any (x k : Int) (p : Bool) (w : World) : Calls Tryd.prog 18 #[.agg #[.int .i64 x, .bool p], .int .i64 k] w fun e w' =>
    e = .returned (.agg #[.int .i64 (mv x k p), .bool p]) ∧ w' = (w.alloc (.cells #[.int .i64 (mv x k p), .bool p] 24)).alloc (.cells #[.int .i64 (mv x k p), .bool p] 24) := by
  unfold mv
  cases p
  · go_enter Tryd.func18, Tryd.ntmps18
    go_wp2
    simp [bodyPost, results, Tryd.results18, go_sem]
  · go_enter Tryd.func18, Tryd.ntmps18
    go_wp2
    simp [bodyPost, results, Tryd.results18, go_sem]

theorem moved_same (op x y k : Int) (p q : Bool) (hx : -9223372036854775808 ≤ x ∧ x ≤ 9223372036854775807) (hy : -9223372036854775808 ≤ y ∧ y ≤ 9223372036854775807) :
    calcV op (mv x k p) (mv y k q) p q = calcV op x y p q := by
  unfold calcV
  by_cases h : calcE op p q = 0
  · rw [if_pos h, if_pos h]
    cases p <;> cases q
    · rfl
    · exfalso; simp [calcE] at h; omega
    · exfalso; simp [calcE] at h; omega
    · have h10 : op = 10 := by
        simp [calcE] at h; omega
      subst h10
      simp only [mv, if_true]
      have e : (wrap64 (x + k) = wrap64 (y + k)) ↔ x = y := by unfold wrap64; omega
      simp [e]
  · rw [if_neg h, if_neg h]

end Go.Proofs.YtbdmhhejpomeiaaDoor
