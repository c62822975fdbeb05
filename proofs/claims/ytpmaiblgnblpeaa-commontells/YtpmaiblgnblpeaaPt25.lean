/-
  Of keeps its contract.
-/
import Derived.Test.YtpmaiblgnblpeaaProg
import Derived.WalkKit
import Derived.WalkSpells
import Derived.WalkLawsBesides
import Derived.RowKit3
import Derived.Below
import Derived.Deep.QuietTactic
import Derived.BigQuiet
import Derived.WalkSmall
import Derived.Laws.Rows
import Derived.Test.YtpmaiblgnblpeaaPt24
import Derived.Test.YtpmaiblgnblpeaaPt13
namespace Go.Proofs.Ytpmaiblgnblpeaa
open Go.RowKit

set_option maxRecDepth 100000 in
set_option maxHeartbeats 4000000 in
theorem of_none (A : Option Addr) (c : Nat) (w : World) : Calls Try.prog 13 #[.slice A 0 c] w (OfR [] (cstI []) w) := by
  have h0 : ((0 : Int) == 0) = true := rfl
  have e1 : sufL [] = [] := List.length_eq_zero_iff.1 (by rw [sufL_len]; rfl)
  have e2 : rkL [] = [] := List.length_eq_zero_iff.1 (by rw [rkL_len]; rfl)
  have HE : Hid (OfR [] (cstI []) w (.returned (.agg #[.slice none 0 0, .slice none 0 0, .int .i64 0])) ((w.alloc (.cells #[.slice A 0 c] 22)).alloc (.cells #[.slice none 0 0, .slice none 0 0, .int .i64 0] 34))) := ⟨none, none, 0, 0, rfl, (by rw [e1]; exact World.ownsRow_nil _ _ _ _), (by rw [e2]; exact World.ownsRow_nil _ _ _ _), (by intro k hk; cases hk), lb_alloc (lb_alloc (Below.refl _ _) _) _⟩
  clear e1 e2
  go_enter Try.func13, Try.ntmps13
  go_wp2
  go_step3
  go_wp2
  refine bodyPost_ret (v := .agg #[.slice none 0 0, .slice none 0 0, .int .i64 0]) (by simp [results, Try.results13, go_sem]) rfl ?_
  exact HE.out
theorem ofOK : OfOK cstI where
  ok := fun A c l w hA _ hl => by
    by_cases h : l.length = 0
    · obtain rfl : l = [] := List.length_eq_zero_iff.1 h
      exact of_none A c w
    · obtain ⟨a, rfl, -⟩ := hA 0 (by omega)
      exact of_try a c l w hA (by omega) hl
  few := by
    have h := cstI_ok [3, 1, 3, 1] (by decide)
    rw [show (([3, 1, 3, 1] : List Int).length : Int) = 4 from rfl, most4] at h
    omega
theorem costOK : CostOK cstI := fun l hl => cstI_ok l (by omega)


end Go.Proofs.Ytpmaiblgnblpeaa
