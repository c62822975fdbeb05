/-
  The small functions of package object; no condition.
-/
import Derived.Test.YtbphfgalgiinnaaProg
import Derived.WalkKit
import Derived.WalkSpells
import Derived.WalkLawsBesides
import Derived.RowKit3
import Derived.Below
import Derived.Deep.QuietTactic
import Derived.BigQuiet
import Derived.WalkSmall
import Derived.Test.YtbphfgalgiinnaaObMath
namespace Go.Proofs.Ytbphfgalgiinnaa
open Go.RowKit

/-- A number, or 0. -/
def rfs (b : Bool) (e : Int) : Int := match b with
  | true => e
  | false => 0
theorem refuse_yes (e n : Int) (w : World) : Calls Try.prog 52 #[.bool true, .int .i64 e, .int .i64 n] w fun r w' => r = .returned (.tuple #[.int .i64 (rfs true e), .int .i64 (rfs true n)]) ∧ w' = w := by
  go_enter Try.func52, Try.ntmps52
  go_wp2
  go_ret2
  exact ⟨rfl, rfl⟩
theorem refuse_no (e n : Int) (w : World) : Calls Try.prog 52 #[.bool false, .int .i64 e, .int .i64 n] w fun r w' => r = .returned (.tuple #[.int .i64 (rfs false e), .int .i64 (rfs false n)]) ∧ w' = w := by
  go_enter Try.func52, Try.ntmps52
  go_wp2
  go_ret2
  exact ⟨rfl, rfl⟩
theorem fits_any (a n : Int) (ha : -9223372036854775808 ≤ a) (ha2 : a ≤ 9223372036854775807) (w : World) : Calls Try.prog 57 #[.int .i64 a, .int .i64 n] w fun r w' => r = .returned (.bool (decide (0 ≤ a ∧ n ≤ 4096 - a))) ∧ w' = w := by
  by_cases h0 : 0 ≤ a
  · by_cases h1 : n ≤ 4096 - a
    · rw [decide_eq_true ⟨h0, h1⟩]
      go_enter Try.func57, Try.ntmps57
      go_wp2
      go_ret
      exact ⟨by first | rfl | (simp [*]; done), rfl⟩
    · rw [decide_eq_false (by omega)]
      go_enter Try.func57, Try.ntmps57
      go_wp2
      go_ret
      exact ⟨by first | rfl | (simp [*]; done), rfl⟩
  · rw [decide_eq_false (by omega)]
    go_enter Try.func57, Try.ntmps57
    go_wp2
    go_ret
    exact ⟨by first | rfl | (simp [*]; done), rfl⟩
def lastP (kd : Int) (nc : Nat) : Int := if kd = 3 then 0 else nc
theorem last_any (nm : ByteArray) (dA kd : Int) (A1 A2 A3 A4 : Option Addr) (nc c1 nd c2 ns c3 nr c4 : Nat) (w : World) : Calls Try.prog 66 #[.agg #[.string nm, .slice A1 nc c1, .int .i64 dA, .slice A2 nd c2, .slice A3 ns c3, .slice A4 nr c4], .int .i8 kd] w fun r w' => r = .returned (.int .i64 (lastP kd nc)) ∧ Below w.heap.size w w' := by
  cases h : (kd == 3) with
  | true =>
    rw [show lastP kd nc = 0 by unfold lastP; rw [if_pos (by simpa using h)]]
    go_enter Try.func66, Try.ntmps66
    go_wp2
    go_ret
    exact ⟨rfl, lb_alloc (Below.refl _ _) _⟩
  | false =>
    rw [show lastP kd nc = nc by unfold lastP; rw [if_neg (by simpa using h)]]
    go_enter Try.func66, Try.ntmps66
    go_wp2
    go_ret
    exact ⟨rfl, lb_alloc (Below.refl _ _) _⟩

end Go.Proofs.Ytbphfgalgiinnaa
