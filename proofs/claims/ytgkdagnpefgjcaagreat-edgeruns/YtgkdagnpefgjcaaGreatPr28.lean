/-
  The program's machine: what an instruction leaves.
-/
import Derived.Test.YtgkdagnpefgjcaaGreatProg
import Derived.WalkKit
import Derived.WalkSpells
import Derived.WalkLawsBesides
import Derived.RowKit3
import Derived.Below
import Derived.Deep.QuietTactic
import Derived.BigQuiet
import Derived.WalkSmall
import Derived.Laws.Rows
import Derived.Deep.RegionLaw
import Derived.Deep.RegionHeld3
import Derived.Laws.Pointers
import Derived.Outline
import Derived.StillTactics
import Derived.Test.YtgkdagnpefgjcaaGreatPr24
import Derived.Test.YtgkdagnpefgjcaaGreatPr27
namespace Go.Proofs.YtgkdagnpefgjcaaGreat
open Go.RowKit

section
variable {w W : World} {base P : Nat} {s : Loc} {m : Mach}
/-- What is done. -/
def DoneP (w : World) (base P : Nat) (s : Loc) (r : Did) (w' : World) : Prop := ∃ s', PAt w' base P s' r.m ∧ Upto (Foot s P) w w' ∧ ∀ b, Foot s' P b → Foot s P b ∨ w.heap.size ≤ b
theorem DoneP.up {r : Did} {w' : World} (h : DoneP w base P s r w') : Upto (Foot s P) w w' := by
  obtain ⟨s', -, h, -⟩ := h
  exact h
theorem DoneP.on {r : Did} {w1 w' : World} (hu : Upto (Foot s P) w w1) (h : DoneP w1 base P s r w') : DoneP w base P s r w' := by
  obtain ⟨s', h1, h2, h3⟩ := h
  exact ⟨s', h1, hu.trans h2, fun b hb => (h3 b hb).imp id fun k => Nat.le_trans hu.size k⟩
theorem done_did {r : Did} {w1 w' : World} (hr : r.err = 0) (hb : Below w.heap.size w w1) (h : DoneP w1 base P s r w') : DidP w base P s m r (.returned (.int .i64 r.to)) w' := .inr ⟨hr, rfl, DoneP.on (Upto.of hb) h⟩
theorem upto_cell {F : Nat → Prop} {W0 : World} {B i : Nat} {v : Value} (h : Upto F W0 W) (hn : ¬ F B) (hc : W0.cell? ⟨B, i, none⟩ = some v) : W.cell? ⟨B, i, none⟩ = some v := by
  rw [World.cell?_of_block (h.block B (World.block_lt_of_cell? W0 _ hc) hn)]
  exact hc
set_option maxHeartbeats 2000000 in
theorem do_neg {op d a b n : Int} (ho : op < 0) : Calls Tryz.prog 25 #[.pointer (some ⟨P, 0, none⟩), .agg #[.int .i8 op, .int .i8 d, .int .i8 a, .int .i8 b, .int .i64 n]] w (DidP w base P s m (noD m 3)) := by
  go_enter Tryz.func25, Tryz.ntmps25
  go_wp2
  exact ⟨rfl, did_no (by decide) (lb_alloc (Below.refl _ _) _)⟩
end



end Go.Proofs.YtgkdagnpefgjcaaGreat
