/-
  Of keeps its contract. The marks behind a list of numbers, looked at by the document's helpers: true where they stand; the list is at most 2^20 long. The marks behind a list of symbols, of relocations, looked at by the document's helpers: true where they stand; the list is at most 2^20 long. The marks behind an object's lists, looked at by the document's helper: true where they stand; the lists are at most 2^20 long.
-/
import Derived.Test.YtpmaiblgnblpeaaDoorProg
import Derived.WalkKit
import Derived.WalkSpells
import Derived.WalkLawsBesides
import Derived.RowKit3
import Derived.Below
import Derived.Deep.QuietTactic
import Derived.BigQuiet
import Derived.WalkSmall
import Derived.Laws.Rows
import Derived.Test.YtpmaiblgnblpeaaDoorPf27
import Derived.Test.YtpmaiblgnblpeaaDoorPf28
import Derived.Test.YtpmaiblgnblpeaaDoorPf10
namespace Go.Proofs.YtpmaiblgnblpeaaDoor
open Go.RowKit

set_option maxRecDepth 100000 in
set_option maxHeartbeats 4000000 in
theorem of_none (A : Option Addr) (c : Nat) (w : World) : Calls Tryd.prog 18 #[.slice A 0 c] w (OfR [] (cstI []) w) := by
  have h0 : ((0 : Int) == 0) = true := rfl
  have e1 : sufL [] = [] := List.length_eq_zero_iff.1 (by rw [sufL_len]; rfl)
  have e2 : rkL [] = [] := List.length_eq_zero_iff.1 (by rw [rkL_len]; rfl)
  have HE : Hid (OfR [] (cstI []) w (.returned (.agg #[.slice none 0 0, .slice none 0 0, .int .i64 0])) ((w.alloc (.cells #[.slice A 0 c] 22)).alloc (.cells #[.slice none 0 0, .slice none 0 0, .int .i64 0] 62))) := ⟨none, none, 0, 0, rfl, (by rw [e1]; exact World.ownsRow_nil _ _ _ _), (by rw [e2]; exact World.ownsRow_nil _ _ _ _), (by intro k hk; cases hk), lb_alloc (lb_alloc (Below.refl _ _) _) _⟩
  clear e1 e2
  go_enter Tryd.func18, Tryd.ntmps18
  go_wp2
  go_step3
  go_wp2
  refine bodyPost_ret (v := .agg #[.slice none 0 0, .slice none 0 0, .int .i64 0]) (by simp [results, Tryd.results18, go_sem]) rfl ?_
  exact HE.out
theorem ofOK : OfOK cstI where
  ok := fun A c l w hA _ hl => by
    by_cases h : l.length = 0
    · obtain rfl : l = [] := List.length_eq_zero_iff.1 h
      exact of_none A c w
    · obtain ⟨a, rfl, -⟩ := hA 0 (by omega)
      exact of_try a c l w hA (by omega) hl
  few := by
    have h := cstI_ok [3, 1, 3, 1] (by decide)
    rw [show (([3, 1, 3, 1] : List Int).length : Int) = 4 from rfl, most4] at h
    omega
theorem costOK : CostOK cstI := fun l hl => cstI_ok l (by omega)



end Go.Proofs.YtpmaiblgnblpeaaDoor

namespace Go.Proofs.YtpmaiblgnblpeaaDoor
open Go.RowKit

def MarkI (w : World) (K : IntKind) (g n : Nat) : Prop := ∀ i, n ≤ i → i < n + 64 → w.cell? ⟨g, i, none⟩ = some (.int K (9437184 + i + 1))
def MarkS (w : World) (g n : Nat) : Prop := ∀ i, n ≤ i → i < n + 64 → w.cell? ⟨g, i * 3, none⟩ = some (.string ⟨#[]⟩) ∧ w.cell? ⟨g, i * 3 + 1, none⟩ = some (.int .i8 0) ∧ w.cell? ⟨g, i * 3 + 2, none⟩ = some (.int .i64 (9437184 + i + 1))
def MarkR (w : World) (g n : Nat) : Prop := ∀ i, n ≤ i → i < n + 64 → w.cell? ⟨g, i * 2, none⟩ = some (.int .i64 (9437184 + i + 1)) ∧ w.cell? ⟨g, i * 2 + 1, none⟩ = some (.int .i64 0)
theorem MarkI.keep {w w1 : World} {K : IntKind} {g n : Nat} (h : MarkI w K g n) (hb : Below w.heap.size w w1) : MarkI w1 K g n := fun i a b => lkeep hb (h i a b)
theorem MarkS.keep {w w1 : World} {g n : Nat} (h : MarkS w g n) (hb : Below w.heap.size w w1) : MarkS w1 g n := fun i a b => ⟨lkeep hb (h i a b).1, lkeep hb (h i a b).2.1, lkeep hb (h i a b).2.2⟩
theorem MarkR.keep {w w1 : World} {g n : Nat} (h : MarkR w g n) (hb : Below w.heap.size w w1) : MarkR w1 g n := fun i a b => ⟨lkeep hb (h i a b).1, lkeep hb (h i a b).2⟩






end Go.Proofs.YtpmaiblgnblpeaaDoor
